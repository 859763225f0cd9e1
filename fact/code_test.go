package fact_test

import (
	"crypto/sha256"
	"encoding/binary"
	"encoding/hex"
	"math/rand"
	"strings"
	"testing"

	"royalty/api"
	"royalty/fact"
)

// wantInt is the encoding of n as chapter 1 defines it: a zigzag varint, which the library has too.
func wantInt(n int) string {
	return string(binary.AppendVarint(nil, int64(n)))
}

func wantString(s string) string {
	return wantInt(len(s)) + s
}

// wantParts are the parts of the encoding of f, valid or not.
func wantParts(f api.Fact) []string {
	parts := []string{}
	for _, name := range order {
		parts = append(parts, wantInt(*number(&f, name)))
	}
	return append(parts, wantString(f.Text))
}

func wantCode(f api.Fact) string {
	return strings.Join(wantParts(f), "")
}

// codable reports whether f has an encoding as far as chapter 1 goes.
func codable(f api.Fact) bool {
	for _, name := range order {
		if n := *number(&f, name); n < -api.MaxInt || n > api.MaxInt {
			return false
		}
	}
	return len(f.Text) <= api.MaxString
}

func checkEncode(t *testing.T, f api.Fact, want string) {
	t.Helper()
	if got, e := fact.Encode(f); got != want || e != api.OK {
		t.Errorf("Encode(%+v) = %.60x, %d; want %.60x, 0", show(f), got, e, want)
	}
}

func checkDecode(t *testing.T, s string, want api.Fact) {
	t.Helper()
	if got, e := fact.Decode(s); got != want || e != api.OK {
		t.Errorf("Decode(%.60x) = %+v, %d; want %+v, 0", s, show(got), e, show(want))
	}
}

func checkDecodeRefuses(t *testing.T, s string, want api.Errno) {
	t.Helper()
	if got, e := fact.Decode(s); got != (api.Fact{}) || e != want {
		t.Errorf("Decode(%.60x) of %d bytes = %+v, %d; want a zero fact, %d", s, len(s), show(got), e, want)
	}
}

func TestEncodeExample(t *testing.T) {
	code, _ := hex.DecodeString("0e00020a00000000000000000080897a00060000")
	checkEncode(t, rate, string(code))
	checkDecode(t, string(code), rate)
}

func TestEncodeAndDecode(t *testing.T) {
	for _, f := range samples() {
		checkEncode(t, f, wantCode(f))
		checkDecode(t, wantCode(f), f)
	}
}

func TestEncodeRefuses(t *testing.T) {
	for _, f := range invalid() {
		if s, e := fact.Encode(f); s != "" || e != api.ErrFact {
			t.Errorf("Encode(%+v) = %.60x, %d; want an empty string, ErrFact", show(f), s, e)
		}
	}
}

// TestEncodeTellsFactsApart compares the encodings of all samples, and of facts that differ from one in one field.
func TestEncodeTellsFactsApart(t *testing.T) {
	seen := map[string]api.Fact{}
	for _, f := range samples() {
		s, _ := fact.Encode(f)
		if other, ok := seen[s]; ok && !fact.Same(other, f) {
			t.Errorf("%+v and %+v have the same encoding", show(f), show(other))
		}
		seen[s] = f
		for _, name := range order {
			other := with(f, name, *number(&f, name)+1)
			if code, e := fact.Encode(other); e == api.OK && code == s {
				t.Errorf("%+v and %+v have the same encoding", show(f), show(other))
			}
		}
	}
}

func TestDecodeRefusesWhatIsCutOff(t *testing.T) {
	for _, k := range kinds {
		for _, f := range []api.Fact{least(k), greatest(k), rate} {
			s := wantCode(f)
			for size := range len(s) {
				checkDecodeRefuses(t, s[:size], api.ErrWire)
			}
		}
	}
}

func TestDecodeRefusesAdditionalBytes(t *testing.T) {
	for _, k := range kinds {
		for _, f := range []api.Fact{least(k), greatest(k)} {
			s := wantCode(f)
			for b := range 256 {
				checkDecodeRefuses(t, s+string([]byte{byte(b)}), api.ErrWire)
			}
			checkDecodeRefuses(t, s+s, api.ErrWire)
			checkDecodeRefuses(t, s+wantString("a"), api.ErrWire)
			checkDecodeRefuses(t, s+strings.Repeat("\x00", 100), api.ErrWire)
		}
	}
}

// TestDecodeRefusesInvalidFacts also tries their encodings cut off and with additional bytes: that is the first error then.
func TestDecodeRefusesInvalidFacts(t *testing.T) {
	for _, f := range invalid() {
		s := wantCode(f)
		if !codable(f) {
			checkDecodeRefuses(t, s, api.ErrWire)
			continue
		}
		checkDecodeRefuses(t, s, api.ErrFact)
		checkDecodeRefuses(t, s[:len(s)-1], api.ErrWire)
		checkDecodeRefuses(t, s+"\x00", api.ErrWire)
	}
}

// TestDecodeRefusesParts puts something else in the place of each part, in encodings of facts that are valid and of ones that are not.
func TestDecodeRefusesParts(t *testing.T) {
	numbers := []string{"", "\x80", "\x80\x00", "\x82\x80\x00", "\xff\xff\xff\xff\xff\xff\xff\xff\x7f", "\xff\xff\xff\xff\xff\xff\xff\xff\xff\x01", "\x80\x80\x80\x80\x80\x80\x80\x80\x80\x80\x80\x01", strings.Repeat("\xff", 40)}
	texts := append([]string{wantInt(-1), wantInt(-64), wantInt(1), wantInt(2001) + strings.Repeat("a", 2000), wantString(strings.Repeat("a", 65537)), wantInt(65537), wantInt(api.MaxInt)}, numbers...)
	bad := with(rate, "ID", 1)
	for _, f := range []api.Fact{rate, bad, least(kinds[0]), greatest(kinds[3]), {}} {
		right := wantParts(f)
		for i := range right {
			wrong := numbers
			if i == len(order) {
				wrong = texts
			}
			for _, s := range wrong {
				parts := append(append(append([]string{}, right[:i]...), s), right[i+1:]...)
				checkDecodeRefuses(t, strings.Join(parts, ""), api.ErrWire)
			}
		}
	}
}

// TestDecodeTextSizes tries texts that wire takes, but that no fact has.
func TestDecodeTextSizes(t *testing.T) {
	for _, k := range kinds {
		for size, want := range map[int]api.Errno{2000: api.OK, 2001: api.ErrFact, 65536: api.ErrFact, 65537: api.ErrWire} {
			f := withText(least(k), strings.Repeat("a", size))
			switch {
			case k.text && want == api.OK:
				checkDecode(t, wantCode(f), f)
			case want == api.OK:
				checkDecodeRefuses(t, wantCode(f), api.ErrFact)
			default:
				checkDecodeRefuses(t, wantCode(f), want)
			}
		}
	}
}

// checkCanonical checks that what Decode accepts is what Encode returns for the fact, and that nothing comes with an error.
func checkCanonical(t *testing.T, s string) {
	t.Helper()
	f, e := fact.Decode(s)
	switch {
	case e == api.OK:
		checkEncode(t, f, s)
	case f != api.Fact{} || e != api.ErrWire && e != api.ErrFact:
		t.Errorf("Decode(%.60x) = %+v, %d", s, show(f), e)
	}
}

func TestDecodeIsCanonical(t *testing.T) {
	r := rand.New(rand.NewSource(6))
	checkCanonical(t, "")
	for _, k := range kinds {
		s := wantCode(withText(greatest(k), ""))
		for i := range len(s) {
			for b := range 256 {
				checkCanonical(t, s[:i]+string([]byte{byte(b)})+s[i+1:])
				checkCanonical(t, s[:i]+string([]byte{byte(b)})+s[i:])
			}
			checkCanonical(t, s[:i]+s[i+1:])
		}
	}
	for range 100000 {
		code := make([]byte, 18+r.Intn(4))
		for i := range code {
			code[i] = byte(r.Intn(256) >> r.Intn(9))
		}
		checkCanonical(t, string(code))
	}
}

func TestID(t *testing.T) {
	for _, f := range samples() {
		want := sha256.Sum256([]byte(wantCode(f)))
		if id, e := fact.ID(f); id != string(want[:]) || e != api.OK {
			t.Errorf("ID(%+v) = %x, %d; want %x, 0", show(f), id, e, want)
		}
	}
	for _, f := range invalid() {
		if id, e := fact.ID(f); id != "" || e != api.ErrFact {
			t.Errorf("ID(%+v) = %x, %d; want an empty string, ErrFact", show(f), id, e)
		}
	}
}

func TestIDTellsFactsApart(t *testing.T) {
	seen := map[string]api.Fact{}
	for _, f := range samples() {
		id, _ := fact.ID(f)
		if other, ok := seen[id]; ok && !fact.Same(other, f) {
			t.Errorf("%+v and %+v have the same ID", show(f), show(other))
		}
		seen[id] = f
	}
}
