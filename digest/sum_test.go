package digest_test

import (
	"crypto/sha256"
	"encoding/hex"
	"io"
	"math/rand"
	"strings"
	"testing"

	"royalty/api"
	"royalty/digest"
)

// wantSum is the SHA-256 of the parts, one after the other.
func wantSum(parts ...string) string {
	h := sha256.New()
	for _, part := range parts {
		io.WriteString(h, part)
	}
	return string(h.Sum(nil))
}

// checkDigest checks that a call returned the wanted digest.
func checkDigest(t *testing.T, call string, got string, want string) {
	t.Helper()
	if got != want {
		t.Errorf("%.60q = %x, want %x", call, got, want)
	}
}

// randomString returns a string of size random bytes.
func randomString(random *rand.Rand, size int) string {
	b := make([]byte, size)
	random.Read(b)
	return string(b)
}

// flip returns s with a bit of the byte at that index changed.
func flip(s string, at int, bit byte) string {
	b := []byte(s)
	b[at] ^= bit
	return string(b)
}

func TestSumExamples(t *testing.T) {
	for _, c := range []struct{ s, digest string }{
		{"", "e3b0c44298fc1c149afbf4c8996fb92427ae41e4649b934ca495991b7852b855"},
		{"abc", "ba7816bf8f01cfea414140de5dae2223b00361a396177a9cb410ff61f20015ad"},
		{"abcdbcdecdefdefgefghfghighijhijkijkljklmklmnlmnomnopnopq", "248d6a61d20638b8e5c026930c3e6039a33ce45964ff2167f6ecedd419db06c1"},
		{strings.Repeat("a", 1000000), "cdc76e5c9914fb9281a1c7e284d73e67f1809a48a497200e046d39ccc7112cd0"},
	} {
		checkDigest(t, "Sum("+c.s+")", hex.EncodeToString([]byte(digest.Sum(c.s))), c.digest)
	}
	checkDigest(t, "Leaf(abc)", hex.EncodeToString([]byte(digest.Leaf("abc"))), "609f6e36d2405585188d5cfd761f407c7cc46a7d3f314c88270469dde315fcd1")
}

func TestSumIsSHA256(t *testing.T) {
	check := func(s string) {
		checkDigest(t, "Sum("+s+")", digest.Sum(s), wantSum(s))
	}
	for a := range 256 {
		check(string([]byte{byte(a)}))
	}
	random := rand.New(rand.NewSource(1))
	for size := range 300 {
		check(randomString(random, size))
		check(strings.Repeat("\x00", size))
		check(strings.Repeat("\xff", size))
	}
	for _, size := range []int{1 << 13, 1<<13 + 55, 1<<13 + 56, 1<<13 + 63, 1 << 16, 100000} {
		check(randomString(random, size))
	}
}

func TestSumOfMoreThan32Bits(t *testing.T) {
	if testing.Short() {
		t.Skip("digests half a gigabyte")
	}
	s := strings.Repeat("\x00", 1<<29+1) // its bits have a number that 32 bits do not hold
	if digest.Sum(s) != wantSum(s) {
		t.Error("Sum of 2^29 + 1 zero bytes is wrong")
	}
}

func TestLeafNodeAndChain(t *testing.T) {
	random := rand.New(rand.NewSource(2))
	texts := []string{"", "\x00", "\x01", "\x02", "a", strings.Repeat("\x00", api.DigestSize)}
	for _, size := range []int{22, 23, 30, 31, 32, 33, 54, 55, 56, 62, 63, 64, 65, 119, 128, 1000} {
		texts = append(texts, randomString(random, size))
	}
	for _, a := range texts {
		checkDigest(t, "Leaf", digest.Leaf(a), wantSum("\x00"+a))
		for _, b := range texts {
			checkDigest(t, "Node", digest.Node(a, b), wantSum("\x01"+a+b))
			checkDigest(t, "Chain", digest.Chain(a, b), wantSum("\x02"+a+b))
		}
	}
}

func TestResultsHaveTheSizeOfADigest(t *testing.T) {
	for _, s := range []string{"", "a", strings.Repeat("b", 64), strings.Repeat("c", 1000)} {
		for _, d := range []string{digest.Sum(s), digest.Leaf(s), digest.Node(s, s), digest.Chain(s, s), digest.Root([]string{s})} {
			if len(d) != api.DigestSize {
				t.Errorf("a digest of %.20q has %d bytes", s, len(d))
			}
		}
	}
}

// head is the head of a list of records, as the chapter defines it.
func head(records []string) string {
	h := strings.Repeat("\x00", api.DigestSize)
	for _, r := range records {
		h = digest.Chain(h, r)
	}
	return h
}

func TestHeads(t *testing.T) {
	zero := strings.Repeat("\x00", 32)
	checkDigest(t, "the head of no records", head(nil), zero)
	checkDigest(t, "the head of a", head([]string{"a"}), wantSum("\x02", zero, "a"))
	checkDigest(t, "the head of a, b", head([]string{"a", "b"}), wantSum("\x02", wantSum("\x02", zero, "a"), "b"))
}

// TestHeadsBindLists compares the heads of lists that look alike: with the same bytes in other records, in another order, and with heads in their records.
func TestHeadsBindLists(t *testing.T) {
	zero := head(nil)
	records := []string{"", "a", "b", "ab", "\x02", "\x00", zero, "\x02" + zero, zero + "a", head([]string{"a"}), head([]string{"a"}) + "b", "\x02" + zero + "a"}
	lists := [][]string{{}}
	for begin, length := 0, 0; length < 3; length++ {
		end := len(lists)
		for _, l := range lists[begin:end] {
			for _, r := range records {
				lists = append(lists, append(append([]string{}, l...), r))
			}
		}
		begin = end
	}
	seen := map[string][]string{}
	for _, l := range lists {
		h := head(l)
		if other, ok := seen[h]; ok {
			t.Errorf("%q and %q have the same head", l, other)
		}
		seen[h] = l
	}
}
