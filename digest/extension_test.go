package digest_test

import (
	"math"
	"math/bits"
	"math/rand"
	"slices"
	"strings"
	"testing"

	"royalty/api"
	"royalty/digest"
)

// wantExtension is the proof that l begins with its first m entries, found from the leaves up: the node that ends where the first m entries do, as high as it is whole, and its neighbours from there on. The node is left out if it consists of all m entries.
func wantExtension(l []string, m int) []string {
	proof := []string{}
	if m == 0 || m == len(l) {
		return proof
	}
	all := levels(l)
	at, height := m-1, 0
	for at%2 == 1 {
		at, height = at/2, height+1
	}
	if at > 0 {
		proof = append(proof, all[height][at])
	}
	for ; height < len(all); height++ {
		if at^1 < len(all[height]) {
			proof = append(proof, all[height][at^1])
		}
		at /= 2
	}
	return proof
}

// wantTwoValues folds a proof as RFC 9162 does (2.1.4.2), for m from 1 to n - 1, and reports whether it has the right length.
func wantTwoValues(old string, m int, n int, proof []string) (string, string, bool) {
	if len(proof) == 0 {
		return "", "", false
	}
	if m&(m-1) == 0 {
		proof = append([]string{old}, proof...)
	}
	at, last := uint64(m-1), uint64(n-1)
	for at%2 == 1 {
		at, last = at>>1, last>>1
	}
	first, second := proof[0], proof[0]
	for _, p := range proof[1:] {
		if last == 0 {
			return "", "", false
		}
		if at%2 == 1 || at == last {
			first, second = wantSum("\x01", p, first), wantSum("\x01", p, second)
			for at%2 == 0 && at > 0 {
				at, last = at>>1, last>>1
			}
		} else {
			second = wantSum("\x01", second, p)
		}
		at, last = at>>1, last>>1
	}
	return first, second, last == 0
}

func checkVerifyExtension(t *testing.T, old string, m int, root string, n int, proof []string, want bool) {
	t.Helper()
	if got := digest.VerifyExtension(old, m, root, n, proof); got != want {
		t.Errorf("VerifyExtension(%x, %d, %x, %d, %x) = %v, want %v", old, m, root, n, proof, got, want)
	}
}

func TestExtensionExample(t *testing.T) {
	want := []string{wantSum("\x00", "b"), wantSum("\x00", "c")}
	if proof, e := digest.Extension([]string{"a", "b", "c"}, 1); !slices.Equal(proof, want) || e != api.OK {
		t.Errorf("Extension = %x, %d; want %x", proof, e, want)
	}
}

func TestExtensionIsTheDefinition(t *testing.T) {
	for n := range 70 {
		l := entries(n)
		for m := range n + 1 {
			if proof, e := digest.Extension(l, m); !slices.Equal(proof, wantExtension(l, m)) || e != api.OK {
				t.Errorf("Extension of %d of %d = %x, %d; want %x", m, n, proof, e, wantExtension(l, m))
			}
		}
	}
}

func TestExtensionRefusesNumbers(t *testing.T) {
	for _, n := range []int{0, 1, 2, 3, 8, 9} {
		for _, m := range []int{-1, -2, math.MinInt, n + 1, n + 2, 2*n + 1, math.MaxInt} {
			if proof, e := digest.Extension(entries(n), m); len(proof) != 0 || e != api.ErrArg {
				t.Errorf("Extension of %d of %d = %x, %d; want ErrArg", m, n, proof, e)
			}
		}
	}
}

func TestVerifyExtensionAcceptsExtensions(t *testing.T) {
	for _, n := range someCounts() {
		l := entries(n)
		root := digest.Root(l)
		for m := range n + 1 {
			proof, _ := digest.Extension(l, m)
			checkVerifyExtension(t, digest.Root(l[:m]), m, root, n, proof, true)
			if len(proof) > 2*bits.Len(uint(n)) {
				t.Errorf("the extension of %d of %d has %d elements", m, n, len(proof))
			}
		}
	}
}

func TestVerifyExtensionOfNoEntries(t *testing.T) {
	none, other := wantSum(""), wantSum("x")
	for _, n := range []int{0, 1, 2, 3, 1 << 40, math.MaxInt} {
		for _, root := range []string{none, other, strings.Repeat("\x00", 32)} {
			checkVerifyExtension(t, none, 0, root, n, nil, true)
			checkVerifyExtension(t, none, 0, root, n, []string{other}, false)
			checkVerifyExtension(t, other, 0, root, n, nil, false)
		}
		checkVerifyExtension(t, none, 0, "", n, nil, false)
		checkVerifyExtension(t, none, 0, none[:31], n, nil, false)
		checkVerifyExtension(t, none, 0, none+"\x00", n, nil, false)
	}
	checkVerifyExtension(t, other, 0, other, 0, nil, false) // also where m is n
	checkVerifyExtension(t, none, 0, none, -1, nil, false)
	checkVerifyExtension(t, none, 0, none, math.MinInt, nil, false)
}

func TestVerifyExtensionOfAllEntries(t *testing.T) {
	root, other := wantSum("x"), wantSum("y")
	for _, n := range []int{1, 2, 3, 4, 7, 8, 1 << 40, math.MaxInt} {
		checkVerifyExtension(t, root, n, root, n, nil, true)
		checkVerifyExtension(t, other, n, root, n, nil, false)
		checkVerifyExtension(t, root, n, root, n, []string{root}, false)
		checkVerifyExtension(t, root, n, root, n, []string{root, root}, false)
		for _, size := range []int{0, 31, 33} {
			x := strings.Repeat("x", size)
			checkVerifyExtension(t, x, n, x, n, nil, false)
		}
	}
}

func TestVerifyExtensionRefusesNumbers(t *testing.T) {
	root := wantSum("")
	for _, c := range []struct{ m, n int }{{1, 0}, {2, 1}, {-1, 0}, {-1, 1}, {-1, -1}, {-2, -1}, {0, -1}, {5, 4}, {math.MaxInt, math.MaxInt - 1}, {math.MinInt, math.MinInt}, {math.MinInt, math.MaxInt}, {math.MaxInt, math.MinInt}} {
		for _, proof := range [][]string{nil, {root}, {root, root}} {
			checkVerifyExtension(t, root, c.m, root, c.n, proof, false)
		}
	}
}

// TestVerifyExtensionRefusesWhatIsNoDigest uses roots that would be right if elements of all sizes were taken.
func TestVerifyExtensionRefusesWhatIsNoDigest(t *testing.T) {
	a, b := wantSum("a"), wantSum("b")
	for _, size := range []int{0, 1, 31, 33, 64} {
		x := strings.Repeat("x", size)
		checkVerifyExtension(t, a, 1, wantSum("\x01", a, x), 2, []string{x}, false)
		checkVerifyExtension(t, x, 1, wantSum("\x01", x, a), 2, []string{a}, false)
		checkVerifyExtension(t, a, 1, wantSum("\x01", wantSum("\x01", a, x), b), 3, []string{x, b}, false)
		checkVerifyExtension(t, wantSum("\x01", a, x), 3, wantSum("\x01", a, wantSum("\x01", x, b)), 4, []string{x, b, a}, false)
		checkVerifyExtension(t, a, 1, x, 2, []string{b}, false)
	}
}

func TestVerifyExtensionIsTheDefinition(t *testing.T) {
	random := rand.New(rand.NewSource(4))
	check := func(m int, n int, size int) {
		proof := randomDigests(random, size)
		old := randomString(random, api.DigestSize)
		first, second, ok := wantTwoValues(old, m, n, proof)
		checkVerifyExtension(t, first, m, second, n, proof, ok)
		checkVerifyExtension(t, wantSum(first), m, second, n, proof, false)
		checkVerifyExtension(t, first, m, wantSum(second), n, proof, false)
	}
	for n := 2; n < 40; n++ {
		for m := 1; m < n; m++ {
			for size := range 9 {
				check(m, n, size)
			}
		}
	}
	for _, n := range bigCounts(random) {
		for _, m := range []int{1, 2, 3, 1 << 10, n / 2, n/2 + 1, n - 2, n - 1, 1 << (bits.Len(uint(n)) - 1), 1 + random.Intn(n)} {
			for size := range 70 {
				if m > 0 && m < n {
					check(m, n, size)
				}
			}
		}
	}
}

// otherExtensions returns changes of the proof for m, and the proofs for all numbers.
func otherExtensions(l []string, m int) [][]string {
	proof := wantExtension(l, m)
	all := append(changedProofs(proof), slices.Insert(slices.Clone(proof), 0, wantRoot(l[:m])))
	for other := range len(l) + 1 {
		all = append(all, wantExtension(l, other))
	}
	return all
}

func TestVerifyExtensionRefusesOtherProofs(t *testing.T) {
	for n := 1; n < 20; n++ {
		l := entries(n)
		root := wantRoot(l)
		for m := range n + 1 {
			right := wantExtension(l, m)
			for _, proof := range otherExtensions(l, m) {
				checkVerifyExtension(t, wantRoot(l[:m]), m, root, n, proof, slices.Equal(proof, right))
			}
		}
	}
}

// TestVerifyExtensionBindsOldRoots tries the roots of all beginnings, of other lists, and of all nodes for every m.
func TestVerifyExtensionBindsOldRoots(t *testing.T) {
	for n := 1; n < 12; n++ {
		l := entries(n)
		root := wantRoot(l)
		tried := append([]string{wantSum(""), wantSum("x"), "", strings.Repeat("\x00", 32)}, slices.Concat(levels(l)...)...)
		for m := range n + 1 {
			tried = append(tried, wantRoot(l[:m]), wantRoot(l[m:]))
		}
		for m := range n + 1 {
			right := wantRoot(l[:m])
			for _, old := range tried {
				checkVerifyExtension(t, old, m, root, n, wantExtension(l, m), old == right)
			}
		}
	}
}

func TestVerifyExtensionRefusesOtherLists(t *testing.T) {
	l := entries(13)
	for m := 1; m <= 13; m++ {
		for changed := range m {
			other := slices.Clone(l)
			other[changed] = "another"
			checkVerifyExtension(t, wantRoot(l[:m]), m, wantRoot(other), 13, wantExtension(other, m), false)
			checkVerifyExtension(t, wantRoot(l[:m]), m, wantRoot(other), 13, wantExtension(l, m), false)
		}
	}
}

func TestExtensionKeepsToItsMemory(t *testing.T) {
	l := entries(13)
	argument, before := l[:11], slices.Clone(l)
	first, _ := digest.Extension(argument, 5)
	second, _ := digest.Extension(argument, 5)
	for i := range cap(first) {
		first[:cap(first)][i] = "changed"
	}
	if !slices.Equal(second, wantExtension(before[:11], 5)) || !slices.Equal(l, before) {
		t.Error("results of Extension share memory, or its argument was changed")
	}
	spare := append(slices.Clone(second), "spare")
	checkVerifyExtension(t, wantRoot(argument[:5]), 5, wantRoot(argument), 11, spare[:len(second)], true)
	if !slices.Equal(spare[:len(second)], second) || spare[len(second)] != "spare" {
		t.Error("VerifyExtension changed the proof")
	}
}
