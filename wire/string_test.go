package wire_test

import (
	"math"
	"strings"
	"testing"

	"royalty/api"
	"royalty/wire"
)

// someStrings are strings of at most MaxString bytes: all those of one byte, some that look like encodings, and some of about the lengths at which an encoding grows, or of the greatest length.
func someStrings() []string {
	l := []string{"", "ab", "\x00\x00", "\x04ab", "\x80\x00", "\xff\xff\xff", "zo\xc3\xab", strings.Repeat("\x80", 20)}
	for b := range 256 {
		l = append(l, string([]byte{byte(b)}))
	}
	for _, size := range []int{62, 63, 64, 65, 127, 128, 8191, 8192, api.MaxString - 1, api.MaxString} {
		l = append(l, strings.Repeat("abcdefg", size/7+1)[:size])
	}
	return l
}

func checkString(t *testing.T, s string, at int, want string, next int, e api.Errno) {
	t.Helper()
	got, gotNext, gotE := wire.String(s, at)
	if got != want || gotNext != next || gotE != e {
		t.Errorf("String(%.40q, %d) = %.40q, %d, %d; want %.40q, %d, %d", s, at, got, gotNext, gotE, want, next, e)
	}
}

func TestPutString(t *testing.T) {
	if code, e := wire.PutString("ab"); code != "\x04ab" || e != api.OK {
		t.Errorf("PutString(ab) = %q, %d", code, e)
	}
	for _, s := range someStrings() {
		if code, e := wire.PutString(s); code != wantInt(len(s))+s || e != api.OK {
			t.Errorf("PutString(%.40q) = %.40q, %d", s, code, e)
		}
	}
}

func TestPutStringRefusesLongStrings(t *testing.T) {
	for _, size := range []int{api.MaxString + 1, api.MaxString + 2, 2 * api.MaxString, 1 << 20} {
		if code, e := wire.PutString(strings.Repeat("x", size)); code != "" || e != api.ErrWire {
			t.Errorf("PutString of %d bytes = %.40q, %d; want ErrWire", size, code, e)
		}
	}
}

func TestStringReturnsWhatPutStringWasGiven(t *testing.T) {
	for _, s := range someStrings() {
		code, _ := wire.PutString(s)
		for _, before := range []string{"", "\x00", "\xff\xff"} {
			for _, after := range []string{"", "\x00", "\x80", "ab"} {
				checkString(t, before+code+after, len(before), s, len(before+code), api.OK)
			}
		}
	}
}

func TestStringRefusesWhatIsNoOffset(t *testing.T) {
	for _, s := range []string{"", "\x00", "\x04a", "\x01", "\x80\x00", "\x04ab"} {
		for _, at := range []int{-1, -2, math.MinInt, len(s) + 1, len(s) + 2, math.MaxInt} {
			checkString(t, s, at, "", 0, api.ErrArg)
		}
		checkString(t, s, len(s), "", 0, api.ErrWire) // an offset, where nothing begins
	}
}

func TestStringRefusesWhatIsCutOff(t *testing.T) {
	for _, s := range []string{"a", "ab", strings.Repeat("c", 64), strings.Repeat("d", 200)} {
		code, _ := wire.PutString(s)
		for size := range len(code) {
			checkString(t, "x"+code[:size], 1, "", 0, api.ErrWire)
		}
	}
	code, _ := wire.PutString(strings.Repeat("e", api.MaxString))
	checkString(t, code[:len(code)-1], 0, "", 0, api.ErrWire)
}

func TestStringRefusesLengths(t *testing.T) {
	content := strings.Repeat("x", api.MaxString+2)
	for _, size := range []int{-1, -2, -api.MaxInt, api.MaxString + 1, api.MaxString + 2, api.MaxInt} {
		checkString(t, wantInt(size)+content, 0, "", 0, api.ErrWire)
	}
	for _, code := range []string{"\x80\x00", "\x84\x00", "\x84\x80\x00", "\xff\xff\xff\xff\xff\xff\xff\xff\x7f", "\x80\x80\x80\x80\x80\x80\x80\x80\x80\x02"} {
		checkString(t, code+content, 0, "", 0, api.ErrWire)
	}
}

func TestStringAcceptsExactlyTheEncodings(t *testing.T) {
	for a := range 256 {
		for b := range 256 {
			s := string([]byte{byte(a), byte(b), 0, 'x', 'y'})
			size, begin, ok := readInt(s)
			if !ok || size < 0 || size > len(s)-begin {
				checkString(t, s, 0, "", 0, api.ErrWire)
				continue
			}
			want := s[begin : begin+size]
			checkString(t, s, 0, want, begin+size, api.OK)
			if code, e := wire.PutString(want); code != s[:begin+size] || e != api.OK {
				t.Errorf("PutString(%q) = %q, %d, but String accepts %q", want, code, e, s[:begin+size])
			}
		}
	}
}

func TestConcatenationsAreUnambiguous(t *testing.T) {
	ints, texts := someInts(), someStrings()
	var all strings.Builder
	for i, n := range ints {
		code, _ := wire.PutInt(n)
		all.WriteString(code)
		if i < len(texts) {
			code, _ = wire.PutString(texts[i])
			all.WriteString(code)
		}
	}
	at := 0
	for i, want := range ints {
		n, next, e := wire.Int(all.String(), at)
		if n != want || e != api.OK {
			t.Fatalf("integer %d at %d = %d, %d; want %d", i, at, n, e, want)
		}
		at = next
		if i < len(texts) {
			text, next, e := wire.String(all.String(), at)
			if text != texts[i] || e != api.OK {
				t.Fatalf("string %d at %d = %.40q, %d; want %.40q", i, at, text, e, texts[i])
			}
			at = next
		}
	}
	if at != all.Len() {
		t.Errorf("%d of %d bytes are decoded", at, all.Len())
	}
}
