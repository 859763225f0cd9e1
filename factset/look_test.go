package factset_test

import (
	"slices"
	"testing"

	"royalty/api"
	"royalty/digest"
	"royalty/fact"
	"royalty/factset"
)

func TestNil(t *testing.T) {
	var s *factset.Set
	for _, id := range append(notIDs(idOf(revenue(1))), idsOf(samples())...) {
		checkHasNot(t, s, id)
	}
	if ids, facts := s.IDs(), s.Facts(); len(ids) != 0 || len(facts) != 0 {
		t.Errorf("a nil set has the IDs %x and %d facts", ids, len(facts))
	}
	if s.Root() != "" || s.Len() != 0 {
		t.Errorf("a nil set has the root %x and %d facts", s.Root(), s.Len())
	}
}

func TestHasAndGet(t *testing.T) {
	l := slices.Concat(samples(), revenues(0, 50))
	s := setOf(t, l)
	checkSet(t, s, modelOf(l))
	for _, f := range l {
		if got, ok := s.Get(idOf(f)); got != f || !ok {
			t.Errorf("Get of the ID of %+v = %+v, %v", show(f), show(got), ok)
		}
		code, _ := fact.Encode(f)
		checkHasNot(t, s, code)
		for _, id := range notIDs(idOf(f)) {
			checkHasNot(t, s, id)
		}
	}
	for _, f := range revenues(50, 100) {
		checkHasNot(t, s, idOf(f))
	}
}

func TestHasAndGetOfEmpty(t *testing.T) {
	s := factset.New()
	for _, id := range append(notIDs(idOf(revenue(1))), idsOf(samples())...) {
		checkHasNot(t, s, id)
	}
}

// TestGetChangesNothing also looks for IDs that are not there, which must not appear then.
func TestGetChangesNothing(t *testing.T) {
	s := setOf(t, samples())
	for _, id := range notIDs(idOf(revenue(1))) {
		s.Get(id)
		s.Has(id)
		s.Missing([]string{id})
		s.Part([]string{id})
	}
	checkSet(t, s, modelOf(samples()))
}

func TestIDsAndFacts(t *testing.T) {
	for _, size := range []int{0, 1, 2, 3, 10, 256, 1000, 3999, 4000} {
		s := setOf(t, revenues(0, size))
		ids, facts := s.IDs(), s.Facts()
		if len(ids) != size || len(facts) != size || s.Len() != size {
			t.Fatalf("there are %d IDs and %d facts, and Len is %d; want %d", len(ids), len(facts), s.Len(), size)
		}
		for i, id := range ids {
			if i > 0 && ids[i-1] >= id {
				t.Errorf("%x comes before %x", ids[i-1], id)
			}
			if idOf(facts[i]) != id {
				t.Errorf("%x is not the ID of %+v", id, show(facts[i]))
			}
		}
		if s.Root() != digest.Root(ids) {
			t.Errorf("Root = %x, want %x", s.Root(), digest.Root(ids))
		}
	}
}

// subsets returns all sets of some of the facts of l, as lists.
func subsets(l []api.Fact) [][]api.Fact {
	all := [][]api.Fact{{}}
	for _, f := range l {
		for _, s := range all {
			all = append(all, append(slices.Clone(s), f))
		}
	}
	return all
}

// TestRootTellsSetsApart compares the roots of all sets of some facts: they differ, and other ways to the same set give the same one.
func TestRootTellsSetsApart(t *testing.T) {
	l := samples()[2:10]
	seen := map[string][]string{}
	for _, some := range subsets(l) {
		s := setOf(t, some)
		if other, ok := seen[s.Root()]; ok {
			t.Errorf("%x and %x have the same root", other, s.IDs())
		}
		seen[s.Root()] = s.IDs()
		slices.Reverse(some)
		again := setOf(t, some, some)
		if again.Root() != s.Root() || !slices.Equal(again.IDs(), s.IDs()) {
			t.Errorf("%x and %x have the roots %x and %x", s.IDs(), again.IDs(), s.Root(), again.Root())
		}
	}
	if len(seen) != 256 {
		t.Errorf("there are %d roots of 256 sets", len(seen))
	}
}

// TestRootOfMany takes one fact away from many, or puts another one in its place.
func TestRootOfMany(t *testing.T) {
	l := revenues(0, 200)
	root := setOf(t, l).Root()
	for i := range l {
		if setOf(t, l[:i], l[i+1:]).Root() == root {
			t.Errorf("the root is the same without fact %d", i)
		}
		if setOf(t, l[:i], revenues(200, 201), l[i+1:]).Root() == root {
			t.Errorf("the root is the same with another fact %d", i)
		}
		if setOf(t, l[i:], l[:i]).Root() != root {
			t.Errorf("the root depends on the order: fact %d comes first", i)
		}
	}
}
