package factset_test

import (
	"slices"
	"strings"
	"testing"

	"royalty/api"
	"royalty/digest"
	"royalty/factset"
)

// TestExamples is the chapter's table.
func TestExamples(t *testing.T) {
	s := factset.New()
	if s.Root() != digest.Root(nil) {
		t.Errorf("Root of a new set = %x", s.Root())
	}
	checkMissing(t, s, nil, nil)
	checkMissing(t, s, []string{"b", "a", "b"}, []string{"a", "b"})
	checkAdd(t, s, revenue(3), true, api.OK)
	checkAdd(t, s, revenue(3), false, api.OK)
	checkAdd(t, s, api.Fact{Kind: 0}, false, api.ErrSet)
	checkSet(t, s, modelOf([]api.Fact{revenue(3)}))
}

// TestRootOfNew compares with the digest of the empty string, and TestRootOfFew with leaves and nodes.
func TestRootOfNew(t *testing.T) {
	if got := factset.New().Root(); got != digest.Sum("") {
		t.Errorf("Root = %x", got)
	}
}

func TestRootOfFew(t *testing.T) {
	ids := modelOf(revenues(0, 3)).ids()
	leaves := []string{digest.Leaf(ids[0]), digest.Leaf(ids[1]), digest.Leaf(ids[2])}
	s := setOf(t, revenues(0, 3))
	if got := s.Root(); got != digest.Node(digest.Node(leaves[0], leaves[1]), leaves[2]) {
		t.Errorf("Root of three facts = %x", got)
	}
	one, _ := s.Part(ids[1:2])
	if got := one.Root(); got != leaves[1] {
		t.Errorf("Root of one fact = %x", got)
	}
}

func TestNewIsEmptyAndNew(t *testing.T) {
	a, b := factset.New(), factset.New()
	checkSet(t, a, model{})
	checkAdd(t, a, revenue(0), true, api.OK)
	checkSet(t, b, model{})
	checkSet(t, factset.New(), model{})
}

func TestAdd(t *testing.T) {
	s, want := factset.New(), model{}
	for _, f := range samples() {
		checkAdd(t, s, f, true, api.OK)
		want[idOf(f)] = f
		checkSet(t, s, want)
	}
}

func TestAddKnown(t *testing.T) {
	s, want := setOf(t, samples()), modelOf(samples())
	for range 2 {
		for _, f := range samples() {
			f.Text = strings.Clone(f.Text)
			checkAdd(t, s, f, false, api.OK)
		}
	}
	checkSet(t, s, want)
}

func TestAddToNil(t *testing.T) {
	var s *factset.Set
	for _, f := range slices.Concat(samples(), invalid()) {
		checkAdd(t, s, f, false, api.ErrNil)
	}
}

func TestAddInvalid(t *testing.T) {
	for _, l := range [][]api.Fact{nil, revenues(0, 1), samples()} {
		s := setOf(t, l)
		for _, f := range invalid() {
			checkAdd(t, s, f, false, api.ErrSet)
		}
		checkSet(t, s, modelOf(l))
		checkAdd(t, s, revenue(99), true, api.OK)
		checkSet(t, s, modelOf(l, []api.Fact{revenue(99)}))
	}
}

// TestAddAboutTheSame adds facts with the same key: they are different elements, whether one prevails or not.
func TestAddAboutTheSame(t *testing.T) {
	older, newer, other := revenue(5), revenue(5), revenue(5)
	newer.Version = 2
	other.Amount++
	l := []api.Fact{newer, older, other}
	s := factset.New()
	for _, f := range l {
		checkAdd(t, s, f, true, api.OK)
	}
	checkSet(t, s, modelOf(l))
}

func TestAddToTheLimit(t *testing.T) {
	most := revenues(0, api.MaxFacts)
	s := setOf(t, most[:3999])
	if s.Len() != 3999 {
		t.Errorf("Len = %d, want 3999", s.Len())
	}
	checkAdd(t, s, most[1234], false, api.OK)
	checkAdd(t, s, api.Fact{}, false, api.ErrSet)
	checkAdd(t, s, most[3999], true, api.OK)
	want := modelOf(most)
	checkSet(t, s, want)
	for _, f := range slices.Concat(samples(), invalid(), revenues(4000, 4100)) {
		checkAdd(t, s, f, false, api.ErrSet)
	}
	for _, f := range most {
		checkAdd(t, s, f, false, api.OK)
	}
	checkSet(t, s, want)
	for _, f := range samples() {
		checkHasNot(t, s, idOf(f))
	}
}

// TestOrderOfFew adds four facts in all orders, and each of them again after each of the others.
func TestOrderOfFew(t *testing.T) {
	l := samples()[:4]
	want := modelOf(l)
	for i := range 24 {
		order := permuted(l, i)
		checkSet(t, setOf(t, order), want)
		s := factset.New()
		for k := range order {
			for j := range k + 1 {
				checkAdd(t, s, order[j], j == k, api.OK)
			}
		}
		checkSet(t, s, want)
	}
}

// permuted returns the permutation of l with a number from 0 to len(l)! - 1.
func permuted[E any](l []E, number int) []E {
	rest, all := slices.Clone(l), []E{}
	for len(rest) > 0 {
		at := number % len(rest)
		number /= len(rest)
		all = append(all, rest[at])
		rest = slices.Delete(rest, at, at+1)
	}
	return all
}

// TestOrderOfMany adds as many facts as fit in several orders, some of them several times.
func TestOrderOfMany(t *testing.T) {
	l := slices.Concat(samples(), revenues(0, api.MaxFacts-len(samples())))
	want := setOf(t, l)
	checkSet(t, want, modelOf(l))
	backwards := slices.Clone(l)
	slices.Reverse(backwards)
	for _, order := range [][]api.Fact{
		backwards, slices.Concat(l, l), slices.Concat(backwards, l), slices.Concat(l[2000:], backwards, l[:3000]), want.Facts(), everyOther(l),
	} {
		s := setOf(t, order)
		if !slices.Equal(s.IDs(), want.IDs()) || !slices.Equal(s.Facts(), want.Facts()) || s.Root() != want.Root() || s.Len() != 4000 {
			t.Errorf("another order of %d facts gives another set of %d facts", len(order), s.Len())
		}
	}
}

// everyOther returns the elements with odd indices of l, and then those with even ones.
func everyOther(l []api.Fact) []api.Fact {
	odd, even := []api.Fact{}, []api.Fact{}
	for i, f := range l {
		if i%2 == 1 {
			odd = append(odd, f)
		} else {
			even = append(even, f)
		}
	}
	return append(odd, even...)
}
