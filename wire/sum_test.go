package wire_test

import (
	"hash/crc32"
	"math/rand"
	"strings"
	"testing"

	"royalty/wire"
)

// wantSum is the checksum of s as the chapter defines it, bit by bit.
func wantSum(s string) int {
	register := uint32(0xffffffff)
	for i := range len(s) {
		register ^= uint32(s[i])
		for range 8 {
			out := register & 1
			register >>= 1
			if out == 1 {
				register ^= 0x82f63b78
			}
		}
	}
	return int(^register)
}

// flip changes the bits of s from bit at on where pattern has a 1, its lowest bit first.
func flip(s string, at int, pattern uint32) string {
	b := []byte(s)
	for i := range 32 {
		if pattern>>i&1 == 1 {
			b[(at+i)/8] ^= 1 << ((at + i) % 8)
		}
	}
	return string(b)
}

func TestSumExamples(t *testing.T) {
	for _, c := range []struct {
		s   string
		sum int
	}{
		{"", 0},
		{"123456789", 3808858755},
		{"a", 3251651376},
		{"\xff\xff\xff\xff", 0xffffffff},
	} {
		if sum := wire.Sum(c.s); sum != c.sum {
			t.Errorf("Sum(%q) = %d, want %d", c.s, sum, c.sum)
		}
	}
}

func TestSumIsTheDefinition(t *testing.T) {
	check := func(s string) {
		if sum := wire.Sum(s); sum != wantSum(s) {
			t.Fatalf("Sum(%.40q) = %d, want %d", s, sum, wantSum(s))
		}
	}
	for a := range 256 {
		check(string([]byte{byte(a)}))
		for b := range 256 {
			check(string([]byte{byte(a), byte(b)}))
		}
	}
	random := rand.New(rand.NewSource(1))
	for size := range 300 {
		b := make([]byte, size)
		random.Read(b)
		check(string(b))
	}
	check(strings.Repeat("\x00", 1000))
	check(strings.Repeat("\xff", 1000))
	check(strings.Repeat("0123456789", 100000))
}

func TestSumIsCastagnolis(t *testing.T) {
	table := crc32.MakeTable(crc32.Castagnoli)
	random := rand.New(rand.NewSource(2))
	for size := range 300 {
		b := make([]byte, size)
		random.Read(b)
		if sum, want := wire.Sum(string(b)), int(crc32.Checksum(b, table)); sum != want {
			t.Fatalf("Sum(%.40q) = %d, want %d", b, sum, want)
		}
	}
}

func TestSumNoticesShortChanges(t *testing.T) {
	random := rand.New(rand.NewSource(3))
	for _, s := range []string{strings.Repeat("\x00", 9), "royalty!", "The quick brown fox"} {
		sum := wire.Sum(s)
		check := func(at int, pattern uint32) {
			if changed := flip(s, at, pattern); wire.Sum(changed) == sum {
				t.Fatalf("Sum(%q) = Sum(%q)", changed, s)
			}
		}
		for at := range 8*len(s) - 31 {
			for pattern := uint32(1); pattern < 1<<10; pattern++ {
				check(at, pattern)
				check(at, pattern<<22)
			}
			for range 1000 {
				if pattern := random.Uint32(); pattern != 0 {
					check(at, pattern)
				}
			}
			check(at, 0x80000001)
			check(at, 0xffffffff)
			check(at, 0x82f63b78)
		}
	}
}

func TestSumNoticesSingleBitsOfLongStrings(t *testing.T) {
	s := strings.Repeat("0123456789abcdef", 256)
	sum := wire.Sum(s)
	for at := 0; at <= 8*len(s)-32; at += 61 {
		if wire.Sum(flip(s, at, 1)) == sum {
			t.Errorf("bit %d does not change the sum", at)
		}
	}
}
