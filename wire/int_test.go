package wire_test

import (
	"math"
	"math/big"
	"slices"
	"strings"
	"testing"

	"royalty/api"
	"royalty/wire"
)

// wantInt is the encoding of n as the chapter defines it, by way of big integers.
func wantInt(n int) string {
	z := new(big.Int).Mul(big.NewInt(2), big.NewInt(int64(n)))
	if n < 0 {
		z.Neg(z).Sub(z, big.NewInt(1))
	}
	code := []byte{}
	group, base := new(big.Int), big.NewInt(128)
	for {
		z.DivMod(z, base, group)
		if z.Sign() == 0 {
			return string(append(code, byte(group.Int64())))
		}
		code = append(code, byte(group.Int64())+128)
	}
}

// readInt decodes the integer at the beginning of s as the chapter defines it, by way of big integers.
func readInt(s string) (n, next int, ok bool) {
	z := new(big.Int)
	for i := range len(s) {
		group := big.NewInt(int64(s[i] & 127))
		z.Add(z, group.Lsh(group, uint(7*i)))
		if s[i] >= 128 {
			continue
		}
		if s[i] == 0 && i > 0 {
			return 0, 0, false
		}
		odd := z.Bit(0) == 1
		if odd {
			z.Add(z, big.NewInt(1)).Neg(z)
		}
		z.Quo(z, big.NewInt(2))
		if z.CmpAbs(big.NewInt(api.MaxInt)) > 0 {
			return 0, 0, false
		}
		return int(z.Int64()), i + 1, true
	}
	return 0, 0, false
}

// someInts are integers from -MaxInt to MaxInt, ascending: small ones, and those about the powers of 2.
func someInts() []int {
	l := []int{}
	for n := -20000; n <= 20000; n++ {
		l = append(l, n)
	}
	for bit := range 63 {
		for d := -3; d <= 3; d++ {
			n := 1<<bit + d
			if n >= 0 && n <= api.MaxInt {
				l = append(l, n, -n)
			}
		}
	}
	slices.Sort(l)
	return slices.Compact(l)
}

func checkInt(t *testing.T, s string, at, n, next int, e api.Errno) {
	t.Helper()
	gotN, gotNext, gotE := wire.Int(s, at)
	if gotN != n || gotNext != next || gotE != e {
		t.Errorf("Int(%.40q, %d) = %d, %d, %d; want %d, %d, %d", s, at, gotN, gotNext, gotE, n, next, e)
	}
}

func TestPutIntExamples(t *testing.T) {
	for _, c := range []struct {
		n    int
		code string
	}{
		{0, "\x00"},
		{1, "\x02"},
		{-1, "\x01"},
		{63, "\x7e"},
		{-64, "\x7f"},
		{64, "\x80\x01"},
		{-65, "\x81\x01"},
		{150, "\xac\x02"},
		{api.MaxInt, "\xfe\xff\xff\xff\xff\xff\xff\xff\x7f"},
		{-api.MaxInt, "\xfd\xff\xff\xff\xff\xff\xff\xff\x7f"},
	} {
		if code, e := wire.PutInt(c.n); code != c.code || e != api.OK {
			t.Errorf("PutInt(%d) = %q, %d; want %q", c.n, code, e, c.code)
		}
		checkInt(t, c.code, 0, c.n, len(c.code), api.OK)
	}
}

func TestPutIntIsTheDefinition(t *testing.T) {
	for _, n := range someInts() {
		if code, e := wire.PutInt(n); code != wantInt(n) || e != api.OK {
			t.Fatalf("PutInt(%d) = %q, %d; want %q", n, code, e, wantInt(n))
		}
	}
}

func TestPutIntRefusesNumbersBeyondMaxInt(t *testing.T) {
	for _, n := range []int{api.MaxInt + 1, api.MaxInt + 2, -api.MaxInt - 1, -api.MaxInt - 2, math.MaxInt - 1, math.MaxInt, math.MinInt + 1, math.MinInt} {
		if code, e := wire.PutInt(n); code != "" || e != api.ErrWire {
			t.Errorf("PutInt(%d) = %q, %d; want ErrWire", n, code, e)
		}
	}
}

func TestIntReturnsWhatPutIntWasGiven(t *testing.T) {
	for _, n := range someInts() {
		code, _ := wire.PutInt(n)
		for _, before := range []string{"", "\x00", "\xff\xff"} {
			for _, after := range []string{"", "\x00", "\x01", "\x80", "\xff"} {
				checkInt(t, before+code+after, len(before), n, len(before+code), api.OK)
			}
		}
	}
}

func TestIntRefusesWhatIsNoOffset(t *testing.T) {
	for _, s := range []string{"", "\x00", "\x80", "\x80\x00", "\xac\x02"} {
		for _, at := range []int{-1, -2, math.MinInt, len(s) + 1, len(s) + 2, math.MaxInt} {
			checkInt(t, s, at, 0, 0, api.ErrArg)
		}
		checkInt(t, s, len(s), 0, 0, api.ErrWire) // an offset, where nothing begins
	}
}

func TestIntRefusesWhatIsCutOff(t *testing.T) {
	for _, n := range someInts() {
		code := wantInt(n)
		for size := range len(code) {
			checkInt(t, "x"+code[:size], 1, 0, 0, api.ErrWire)
		}
	}
	checkInt(t, strings.Repeat("\x80", 1000), 0, 0, 0, api.ErrWire)
	checkInt(t, strings.Repeat("\xff", 1000), 999, 0, 0, api.ErrWire)
}

func TestIntRefusesSuperfluousGroups(t *testing.T) {
	for _, n := range someInts() {
		code := []byte(wantInt(n))
		code[len(code)-1] += 128
		for zeros := range 12 {
			checkInt(t, string(code)+strings.Repeat("\x80", zeros)+"\x00", 0, 0, 0, api.ErrWire)
		}
	}
}

func TestIntRefusesNumbersBeyondMaxInt(t *testing.T) {
	for _, s := range []string{
		"\xff\xff\xff\xff\xff\xff\xff\xff\x7f",                 // -MaxInt - 1
		"\x80\x80\x80\x80\x80\x80\x80\x80\x80\x01",             // MaxInt + 1
		"\x81\x80\x80\x80\x80\x80\x80\x80\x80\x01",             // -MaxInt - 2
		"\xfe\xff\xff\xff\xff\xff\xff\xff\xff\x01",             // math.MaxInt
		"\xff\xff\xff\xff\xff\xff\xff\xff\xff\x01",             // math.MinInt
		"\x80\x80\x80\x80\x80\x80\x80\x80\x80\x02",             // 2^63: 0, if bits were dropped
		"\x82\x80\x80\x80\x80\x80\x80\x80\x80\x80\x80\x80\x01", // 1, if bits were dropped
		strings.Repeat("\xff", 1000) + "\x01",
	} {
		checkInt(t, s, 0, 0, 0, api.ErrWire)
	}
}

func TestIntAcceptsExactlyTheEncodings(t *testing.T) {
	check := func(s string) {
		n, next, ok := readInt(s)
		if !ok {
			checkInt(t, s, 0, 0, 0, api.ErrWire)
			return
		}
		checkInt(t, s, 0, n, next, api.OK)
		if code, e := wire.PutInt(n); code != s[:next] || e != api.OK {
			t.Errorf("PutInt(%d) = %q, %d, but Int accepts %q", n, code, e, s[:next])
		}
	}
	for a := range 256 {
		check(string([]byte{byte(a)}))
		for b := range 256 {
			check(string([]byte{byte(a), byte(b)}))
		}
	}
	ends := []byte{0, 1, 2, 126, 127, 128, 129, 254, 255}
	for _, first := range ends {
		for _, middle := range []string{"", "\x80", "\x80\x80\x80\x80\x80", "\x80\x80\x80\x80\x80\x80", "\xff\xff\xff\xff\xff\xff", "\x80\x80\x80\xc1\x80\x80\x80", "\x80\x00\x80"} {
			for _, x := range ends {
				for _, y := range ends {
					for _, z := range ends {
						check(string([]byte{first}) + middle + string([]byte{x, y, z}))
					}
				}
			}
		}
	}
}

func TestEncodingsOfIntegersArePrefixFree(t *testing.T) {
	codes := []string{}
	for _, n := range someInts() {
		code, _ := wire.PutInt(n)
		codes = append(codes, code)
	}
	slices.Sort(codes)
	for i := range len(codes) - 1 {
		if strings.HasPrefix(codes[i+1], codes[i]) {
			t.Fatalf("%q begins with %q", codes[i+1], codes[i])
		}
	}
}
