package factset_test

import (
	"slices"
	"testing"

	"royalty/api"
	"royalty/factset"
)

func TestUnionWithNil(t *testing.T) {
	var none *factset.Set
	checkUnion(t, none, none, api.ErrNil)
	for _, l := range [][]api.Fact{nil, samples(), revenues(0, 4000)} {
		s := setOf(t, l)
		checkUnion(t, s, none, api.ErrNil)
		checkUnion(t, none, s, api.ErrNil)
		checkSet(t, s, modelOf(l))
	}
}

func TestUnionWithItself(t *testing.T) {
	for _, l := range [][]api.Fact{nil, revenues(0, 1), samples(), revenues(0, 2001), revenues(0, 4000)} {
		s := setOf(t, l)
		checkUnion(t, s, s, api.OK)
		checkUnion(t, s, setOf(t, l), api.OK)
		checkSet(t, s, modelOf(l))
	}
}

// TestUnion unites all pairs of sets of some facts.
func TestUnion(t *testing.T) {
	all := subsets(samples()[1:6])
	for _, a := range all {
		for _, b := range all {
			s, other := setOf(t, a), setOf(t, b)
			checkUnion(t, s, other, api.OK)
			checkSet(t, s, modelOf(a, b))
			checkSet(t, other, modelOf(b))
		}
	}
}

// united returns the union of the sets of two lists, in this order.
func united(t *testing.T, a *factset.Set, b *factset.Set) *factset.Set {
	t.Helper()
	s := setOf(t, a.Facts())
	checkUnion(t, s, b, api.OK)
	return s
}

// checkAllUnions unites three sets in every order and with every grouping.
func checkAllUnions(t *testing.T, l [3][]api.Fact) {
	t.Helper()
	want := setOf(t, l[:]...)
	checkSet(t, want, modelOf(l[:]...))
	for i := range 6 {
		order := permuted(l[:], i)
		a, b, c := setOf(t, order[0]), setOf(t, order[1]), setOf(t, order[2])
		for _, s := range []*factset.Set{united(t, united(t, a, b), c), united(t, a, united(t, b, c))} {
			checkUnion(t, s, a, api.OK)
			if !slices.Equal(s.IDs(), want.IDs()) || !slices.Equal(s.Facts(), want.Facts()) || s.Root() != want.Root() || s.Len() != want.Len() {
				t.Errorf("order %d of three sets gives %x, want %x", i, short(s.IDs()), short(want.IDs()))
			}
		}
	}
}

func TestUnionOfThree(t *testing.T) {
	all := subsets(samples()[:3])
	for _, a := range all {
		for _, b := range all {
			for _, c := range all {
				checkAllUnions(t, [3][]api.Fact{a, b, c})
			}
		}
	}
}

func TestUnionOfThreeLarge(t *testing.T) {
	checkAllUnions(t, [3][]api.Fact{revenues(0, 1500), revenues(1000, 3000), revenues(2000, 4000)})
	checkAllUnions(t, [3][]api.Fact{revenues(0, 4000), nil, revenues(500, 501)})
	checkAllUnions(t, [3][]api.Fact{samples(), revenues(0, 10), slices.Concat(samples()[5:], revenues(7, 30))})
}

func TestUnionUpToTheLimit(t *testing.T) {
	for _, c := range [][2][]api.Fact{
		{revenues(0, 2000), revenues(2000, 4000)},
		{revenues(0, 2500), revenues(1500, 4000)},
		{revenues(0, 3999), revenues(3999, 4000)},
		{revenues(0, 3999), revenues(1, 4000)},
		{revenues(0, 4000), revenues(0, 4000)},
		{revenues(0, 4000), revenues(1000, 1001)},
		{revenues(0, 4000), nil},
	} {
		for i := range 2 {
			a, b := c[i], c[1-i]
			s, other := setOf(t, a), setOf(t, b)
			checkUnion(t, s, other, api.OK)
			checkSet(t, s, modelOf(revenues(0, 4000)))
			checkSet(t, other, modelOf(b))
			checkAdd(t, s, revenue(4000), false, api.ErrSet)
		}
	}
}

func TestUnionBeyondTheLimit(t *testing.T) {
	for _, c := range [][2][]api.Fact{
		{revenues(0, 2000), revenues(2000, 4001)},
		{revenues(0, 2500), revenues(1500, 4001)},
		{revenues(0, 4000), revenues(4000, 4001)},
		{revenues(0, 4000), revenues(1, 4001)},
		{revenues(0, 4000), revenues(4000, 8000)},
		{revenues(0, 3990), samples()},
	} {
		for i := range 2 {
			a, b := c[i], c[1-i]
			s, other := setOf(t, a), setOf(t, b)
			checkUnion(t, s, other, api.ErrSet)
			checkSet(t, s, modelOf(a))
			checkSet(t, other, modelOf(b))
		}
	}
}

// TestUnionAfterRefusal checks that a set that has refused a union takes what fits.
func TestUnionAfterRefusal(t *testing.T) {
	s := setOf(t, revenues(0, 3998))
	checkUnion(t, s, setOf(t, revenues(3000, 4001)), api.ErrSet)
	checkUnion(t, s, setOf(t, revenues(3000, 3999)), api.OK)
	checkAdd(t, s, revenue(3999), true, api.OK)
	checkUnion(t, s, setOf(t, revenues(4000, 4001)), api.ErrSet)
	checkSet(t, s, modelOf(revenues(0, 4000)))
}

// TestUnionKeepsApart adds to each of two sets after their union: the other one does not change.
func TestUnionKeepsApart(t *testing.T) {
	s, other := setOf(t, revenues(0, 5)), setOf(t, samples())
	checkUnion(t, s, other, api.OK)
	checkAdd(t, other, revenue(50), true, api.OK)
	checkSet(t, s, modelOf(revenues(0, 5), samples()))
	checkAdd(t, s, revenue(60), true, api.OK)
	checkSet(t, other, modelOf(samples(), revenues(50, 51)))

	empty := factset.New()
	checkUnion(t, empty, other, api.OK)
	checkAdd(t, empty, revenue(70), true, api.OK)
	checkSet(t, other, modelOf(samples(), revenues(50, 51)))
	checkUnion(t, other, factset.New(), api.OK)
	checkSet(t, other, modelOf(samples(), revenues(50, 51)))
}
