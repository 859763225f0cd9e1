package digest_test

import (
	"math"
	"math/bits"
	"math/rand"
	"slices"
	"strconv"
	"strings"
	"testing"

	"royalty/api"
	"royalty/digest"
)

// entries returns n different entries; the first ones are those that are easily mistaken: an empty one, and ones that look like what is digested for others.
func entries(n int) []string {
	leaf := wantSum("\x00")
	l := []string{"", "\x00", "\x01" + leaf + leaf, leaf, "\x02", "\x01", leaf + leaf}
	for i := len(l); i < n; i++ {
		l = append(l, "entry "+strconv.Itoa(i))
	}
	return l[:n]
}

// levels returns the tree of l from the leaves up: the digests of each level are joined in pairs, and one that is left over rises to the next level. The tree of the chapter is the same one, told from the root down.
func levels(l []string) [][]string {
	level := []string{}
	for _, s := range l {
		level = append(level, wantSum("\x00", s))
	}
	all := [][]string{level}
	for len(level) > 1 {
		next := []string{}
		for i := 0; i+1 < len(level); i += 2 {
			next = append(next, wantSum("\x01", level[i], level[i+1]))
		}
		if len(level)%2 == 1 {
			next = append(next, level[len(level)-1])
		}
		level = next
		all = append(all, level)
	}
	return all
}

// wantRoot is the root of l.
func wantRoot(l []string) string {
	if len(l) == 0 {
		return wantSum("")
	}
	all := levels(l)
	return all[len(all)-1][0]
}

// wantProof is the proof of entry i: its neighbours on all levels, where it has one.
func wantProof(l []string, i int) []string {
	proof := []string{}
	for _, level := range levels(l) {
		if i^1 < len(level) {
			proof = append(proof, level[i^1])
		}
		i /= 2
	}
	return proof
}

// wantValue folds a proof from the leaf up, as RFC 9162 does (2.1.3.2), and reports whether it has the right length.
func wantValue(n int, i int, s string, proof []string) (string, bool) {
	at, last := uint64(i), uint64(n-1)
	v := wantSum("\x00", s)
	for _, p := range proof {
		if last == 0 {
			return "", false
		}
		if at%2 == 1 || at == last {
			v = wantSum("\x01", p, v)
			for at%2 == 0 && at > 0 {
				at, last = at>>1, last>>1
			}
		} else {
			v = wantSum("\x01", v, p)
		}
		at, last = at>>1, last>>1
	}
	return v, last == 0
}

// someCounts are all small numbers of entries, and ones around greater powers of two.
func someCounts() []int {
	l := []int{127, 128, 129, 255, 256, 257}
	for n := range 67 {
		l = append(l, n)
	}
	return l
}

// bigCounts are numbers of entries that no list has, but that a proof may speak of.
func bigCounts(random *rand.Rand) []int {
	l := []int{math.MaxInt, math.MaxInt - 1, 1<<62 + 1, 1 << 62, 1<<62 - 1, 1<<32 + 1, 1 << 32, 1<<31 - 1}
	for range 30 {
		l = append(l, 1+random.Int()>>random.Intn(60))
	}
	return l
}

func randomDigests(random *rand.Rand, n int) []string {
	l := []string{}
	for range n {
		l = append(l, randomString(random, api.DigestSize))
	}
	return l
}

func checkVerify(t *testing.T, root string, n int, i int, s string, proof []string, want bool) {
	t.Helper()
	if got := digest.Verify(root, n, i, s, proof); got != want {
		t.Errorf("Verify(%x, %d, %d, %.40q, %x) = %v, want %v", root, n, i, s, proof, got, want)
	}
}

func TestRootExamples(t *testing.T) {
	l := []string{"a", "b", "c", "d", "e", "f", "g"}
	leaf := func(i int) string { return wantSum("\x00", l[i]) }
	node := func(a, b string) string { return wantSum("\x01", a, b) }
	ab, cd := node(leaf(0), leaf(1)), node(leaf(2), leaf(3))
	abcd, ef := node(ab, cd), node(leaf(4), leaf(5))
	for n, want := range []string{wantSum(""), leaf(0), ab, node(ab, leaf(2)), abcd, node(abcd, leaf(4)), node(abcd, ef), node(abcd, node(ef, leaf(6)))} {
		checkDigest(t, "the root of "+strconv.Itoa(n)+" entries", digest.Root(l[:n]), want)
	}
	checkDigest(t, "Root(nil)", digest.Root(nil), wantSum(""))
}

func TestRootIsTheDefinition(t *testing.T) {
	for n := range 140 {
		l := entries(n)
		checkDigest(t, "the root of "+strconv.Itoa(n)+" entries", digest.Root(l), wantRoot(l))
	}
	for _, n := range []int{1000, 4095, 4096, 4097, 20001} {
		l := entries(n)
		checkDigest(t, "the root of "+strconv.Itoa(n)+" entries", digest.Root(l), wantRoot(l))
	}
}

func TestRootTellsListsApart(t *testing.T) {
	seen := map[string][]string{}
	ab := wantSum("\x01", wantSum("\x00", "a"), wantSum("\x00", "b"))
	for _, l := range [][]string{{}, {""}, {"", ""}, {"", "", ""}, {"a"}, {"a", "a"}, {"a", "a", "a"}, {"a", "b"}, {"b", "a"}, {"ab"}, {"ab", ""}, {"", "ab"}, {"a", "b", "c"}, {"a", "b", "c", "c"}, {ab, "c"}, {"\x01" + wantSum("\x00", "a") + wantSum("\x00", "b")}} {
		root := digest.Root(l)
		if other, ok := seen[root]; ok {
			t.Errorf("%q and %q have the same root", l, other)
		}
		seen[root] = l
	}
}

func TestProofExample(t *testing.T) {
	want := []string{wantSum("\x01", wantSum("\x00", "a"), wantSum("\x00", "b"))}
	if proof, e := digest.Proof([]string{"a", "b", "c"}, 2); !slices.Equal(proof, want) || e != api.OK {
		t.Errorf("Proof = %x, %d; want %x", proof, e, want)
	}
	if proof, e := digest.Proof([]string{"a"}, 0); len(proof) != 0 || e != api.OK {
		t.Errorf("Proof of a list with one entry = %x, %d", proof, e)
	}
}

func TestProofIsTheDefinition(t *testing.T) {
	for n := 1; n < 70; n++ {
		l := entries(n)
		for i := range n {
			if proof, e := digest.Proof(l, i); !slices.Equal(proof, wantProof(l, i)) || e != api.OK {
				t.Errorf("Proof of %d of %d = %x, %d; want %x", i, n, proof, e, wantProof(l, i))
			}
		}
	}
}

func TestProofRefusesWhatIsNoEntry(t *testing.T) {
	for _, n := range []int{0, 1, 2, 3, 8, 9} {
		for _, i := range []int{-1, -2, math.MinInt, n, n + 1, 2 * n, math.MaxInt} {
			if i >= 0 && i < n {
				continue
			}
			if proof, e := digest.Proof(entries(n), i); len(proof) != 0 || e != api.ErrArg {
				t.Errorf("Proof of %d of %d = %x, %d; want ErrArg", i, n, proof, e)
			}
		}
	}
}

func TestVerifyAcceptsProofs(t *testing.T) {
	for _, n := range someCounts() {
		l := entries(n)
		root := digest.Root(l)
		for i, s := range l {
			proof, _ := digest.Proof(l, i)
			checkVerify(t, root, n, i, s, proof, true)
			if len(proof) > bits.Len(uint(n)) {
				t.Errorf("the proof of %d of %d has %d elements", i, n, len(proof))
			}
		}
	}
}

func TestVerifyRefusesIndexes(t *testing.T) {
	s := "a"
	for _, c := range []struct{ n, i int }{{0, 0}, {0, -1}, {1, -1}, {1, 1}, {1, 2}, {2, 2}, {-1, 0}, {-1, -1}, {-2, -3}, {math.MinInt, 0}, {math.MinInt, math.MinInt}, {math.MaxInt, math.MaxInt}, {math.MaxInt, -1}, {1, math.MinInt}, {1, math.MaxInt}} {
		for _, proof := range [][]string{nil, {wantSum("x")}, {wantSum("x"), wantSum("y")}} {
			for _, root := range []string{wantSum("\x00", s), wantSum(""), wantSum("\x01", wantSum("\x00", s), wantSum("x")), wantSum("\x01", wantSum("x"), wantSum("\x00", s)), ""} {
				checkVerify(t, root, c.n, c.i, s, proof, false)
			}
		}
	}
}

// TestVerifyRefusesWhatIsNoDigest uses roots that would be right if elements of all sizes were taken.
func TestVerifyRefusesWhatIsNoDigest(t *testing.T) {
	leaf := wantSum("\x00", "a")
	for _, size := range []int{0, 1, 31, 33, 64} {
		x := strings.Repeat("x", size)
		checkVerify(t, wantSum("\x01", leaf, x), 2, 0, "a", []string{x}, false)
		checkVerify(t, wantSum("\x01", x, leaf), 2, 1, "a", []string{x}, false)
		y := wantSum("y")
		checkVerify(t, wantSum("\x01", wantSum("\x01", leaf, x), y), 3, 0, "a", []string{x, y}, false)
		checkVerify(t, wantSum("\x01", wantSum("\x01", leaf, y), x), 3, 0, "a", []string{y, x}, false)
		checkVerify(t, leaf+x[:min(1, size)], 1, 0, "a", []string{x}, false)
	}
	checkVerify(t, "", 1, 0, "a", nil, false)
	checkVerify(t, leaf[:31], 1, 0, "a", nil, false)
	checkVerify(t, leaf+"\x00", 1, 0, "a", nil, false)
}

func TestVerifyIsTheDefinition(t *testing.T) {
	random := rand.New(rand.NewSource(3))
	check := func(n int, i int, size int) {
		proof := randomDigests(random, size)
		v, ok := wantValue(n, i, "a", proof)
		checkVerify(t, v, n, i, "a", proof, ok)
		checkVerify(t, wantSum(v), n, i, "a", proof, false)
	}
	for n := 1; n < 70; n++ {
		for i := range n {
			for size := range 9 {
				check(n, i, size)
			}
		}
	}
	for _, n := range bigCounts(random) {
		for _, i := range []int{0, 1, n / 2, n - 2, n - 1, random.Intn(n)} {
			for size := range 70 {
				if i >= 0 && i < n {
					check(n, i, size)
				}
			}
		}
	}
}

// changedProofs returns the proof with an element left out, added, doubled, changed or exchanged.
func changedProofs(proof []string) [][]string {
	x := wantSum("x")
	all := [][]string{nil, {x}, append(slices.Clone(proof), x), slices.Insert(slices.Clone(proof), 0, x)}
	for j, p := range proof {
		all = append(all, slices.Delete(slices.Clone(proof), j, j+1), slices.Insert(slices.Clone(proof), j, p))
		for _, other := range []string{x, flip(p, 31, 1), flip(p, 0, 128), p[:31], p + "\x00", ""} {
			changed := slices.Clone(proof)
			changed[j] = other
			all = append(all, changed)
		}
		for k := range j {
			changed := slices.Clone(proof)
			changed[j], changed[k] = changed[k], changed[j]
			all = append(all, changed)
		}
	}
	return all
}

// otherProofs returns changes of the proof of entry i, and the proofs of all entries.
func otherProofs(l []string, i int) [][]string {
	all := changedProofs(wantProof(l, i))
	for j := range l {
		all = append(all, wantProof(l, j))
	}
	return all
}

func TestVerifyRefusesOtherProofs(t *testing.T) {
	for n := 1; n < 20; n++ {
		l := entries(n)
		root := wantRoot(l)
		for i, s := range l {
			right := wantProof(l, i)
			for _, proof := range otherProofs(l, i) {
				checkVerify(t, root, n, i, s, proof, slices.Equal(proof, right))
			}
		}
	}
}

func TestVerifyRefusesOtherRoots(t *testing.T) {
	l := entries(11)
	root := wantRoot(l)
	for i, s := range l {
		proof := wantProof(l, i)
		for n := range l {
			checkVerify(t, wantRoot(l[:n]), 11, i, s, proof, false)
		}
		for _, other := range []string{"", root[:31], root + "\x00", flip(root, 0, 1), flip(root, 31, 128), wantSum(root), wantSum("\x00", s)} {
			checkVerify(t, other, 11, i, s, proof, false)
		}
	}
}

// TestVerifyBindsEntries tries all entries, and what is digested for the leaves and nodes above them, at every index.
func TestVerifyBindsEntries(t *testing.T) {
	for n := 1; n < 12; n++ {
		l := entries(n)
		root := wantRoot(l)
		tried := append(slices.Clone(l), "another", root, "\x00"+l[0])
		for _, level := range levels(l) {
			for i, s := range level {
				tried = append(tried, s, "\x01"+s+level[i^i&1], s+level[i^i&1])
			}
		}
		for i, right := range l {
			for _, s := range tried {
				for _, proof := range [][]string{wantProof(l, i), wantProof(l, n-1), nil} {
					checkVerify(t, root, n, i, s, proof, s == right && slices.Equal(proof, wantProof(l, i)))
				}
			}
		}
	}
}

// TestVerifyTellsEntriesFromNodes proves nothing about an inner node of the tree, as if it were an entry of a shorter list.
func TestVerifyTellsEntriesFromNodes(t *testing.T) {
	l := []string{"a", "b", "c", "d"}
	all := levels(l)
	leaves, nodes, root := all[0], all[1], all[2][0]
	for _, s := range []string{leaves[0] + leaves[1], "\x01" + leaves[0] + leaves[1], "\x00" + leaves[0] + leaves[1], nodes[0], "ab"} {
		checkVerify(t, root, 2, 0, s, []string{nodes[1]}, false)
	}
	for _, s := range []string{nodes[0] + nodes[1], "\x01" + nodes[0] + nodes[1], root} {
		checkVerify(t, root, 1, 0, s, nil, false)
	}
}

func TestProofKeepsToItsMemory(t *testing.T) {
	l := entries(13)
	argument, before := l[:9], slices.Clone(l)
	first, _ := digest.Proof(argument, 4)
	second, _ := digest.Proof(argument, 4)
	digest.Root(argument)
	for i := range cap(first) {
		first[:cap(first)][i] = "changed"
	}
	if !slices.Equal(second, wantProof(before[:9], 4)) || !slices.Equal(l, before) {
		t.Error("results of Proof share memory, or its argument was changed")
	}
	spare := append(slices.Clone(second), "spare")
	checkVerify(t, wantRoot(argument), 9, 4, argument[4], spare[:len(second)], true)
	if !slices.Equal(spare[:len(second)], second) || spare[len(second)] != "spare" {
		t.Error("Verify changed the proof")
	}
}
