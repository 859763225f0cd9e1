package factset_test

import (
	"slices"
	"strings"
	"testing"

	"royalty/api"
	"royalty/factset"
)

// TestPart takes all parts of a set, with the IDs in several orders, once and several times.
func TestPart(t *testing.T) {
	l := samples()[3:9]
	s := setOf(t, l)
	for _, some := range subsets(l) {
		ids := idsOf(some)
		backwards := slices.Clone(ids)
		slices.Reverse(backwards)
		for _, order := range [][]string{ids, backwards, slices.Concat(ids, ids), slices.Concat(backwards, ids, ids)} {
			checkMissing(t, s, order, nil)
			checkPart(t, s, order, modelOf(some))
		}
		part, _ := s.Part(ids)
		checkUnion(t, s, part, api.OK)
		checkSet(t, s, modelOf(l))
		checkUnion(t, part, s, api.OK)
		checkSet(t, part, modelOf(l))
	}
}

func TestPartOfNoIDs(t *testing.T) {
	for _, s := range []*factset.Set{factset.New(), setOf(t, samples())} {
		for _, none := range [][]string{nil, {}} {
			checkPart(t, s, none, model{})
		}
		part, _ := s.Part(nil)
		checkAdd(t, part, revenue(0), true, api.OK)
		checkSet(t, part, modelOf(revenues(0, 1)))
		checkHasNot(t, s, idOf(revenue(0)))
	}
}

func TestPartOfNil(t *testing.T) {
	var s *factset.Set
	for _, ids := range [][]string{nil, {}, {""}, {"a"}, {idOf(revenue(0))}} {
		checkNoPart(t, s, ids)
	}
}

// TestPartNeedsAll puts one string that is not there at each place among IDs that are.
func TestPartNeedsAll(t *testing.T) {
	s := setOf(t, samples())
	ids := idsOf(samples())
	for _, id := range append(notIDs(ids[0]), idOf(revenue(0))) {
		for at := range len(ids) + 1 {
			more := slices.Insert(slices.Clone(ids), at, id)
			checkMissing(t, s, more, []string{id})
			checkNoPart(t, s, more)
		}
		checkNoPart(t, s, []string{id})
		checkNoPart(t, factset.New(), []string{id})
	}
	checkNoPart(t, factset.New(), ids)
	checkSet(t, s, modelOf(samples()))
}

func TestPartOfMany(t *testing.T) {
	l := revenues(0, 4000)
	s := setOf(t, l)
	checkPart(t, s, slices.Concat(s.IDs(), idsOf(l)), modelOf(l))
	checkPart(t, s, idsOf(l[1000:2000]), modelOf(l[1000:2000]))
	part, _ := s.Part(s.IDs()[:3999])
	checkAdd(t, part, revenue(4000), true, api.OK)
	checkAdd(t, part, revenue(4001), false, api.ErrSet)
	checkAdd(t, s, revenue(4000), false, api.ErrSet)
	checkUnion(t, s, part, api.ErrSet)
	checkSet(t, s, modelOf(l))
}

// TestPartKeepsApart adds to a part and to its set: the other one does not change.
func TestPartKeepsApart(t *testing.T) {
	s := setOf(t, samples())
	part, _ := s.Part(idsOf(samples()[:3]))
	whole, _ := s.Part(s.IDs())
	checkAdd(t, part, revenue(0), true, api.OK)
	checkAdd(t, whole, revenue(1), true, api.OK)
	checkSet(t, s, modelOf(samples()))
	checkAdd(t, s, revenue(2), true, api.OK)
	checkSet(t, part, modelOf(samples()[:3], revenues(0, 1)))
	checkSet(t, whole, modelOf(samples(), revenues(1, 2)))
	checkUnion(t, whole, part, api.OK)
	checkSet(t, s, modelOf(samples(), revenues(2, 3)))
	checkSet(t, part, modelOf(samples()[:3], revenues(0, 1)))
}

// TestPartOfPart checks that a part does not have what it was not given.
func TestPartOfPart(t *testing.T) {
	s := setOf(t, samples())
	ids := idsOf(samples())
	part, _ := s.Part(ids[:8])
	checkPart(t, part, ids[2:5], modelOf(samples()[2:5]))
	checkNoPart(t, part, ids[7:9])
	want := modelOf(samples()[8:]).ids()
	checkMissing(t, part, ids, want)
}

func TestMissing(t *testing.T) {
	l := samples()
	s := setOf(t, l[:10])
	ids := idsOf(l)
	want := modelOf(l[10:]).ids()
	checkMissing(t, s, nil, nil)
	checkMissing(t, s, []string{}, nil)
	checkMissing(t, s, ids[:10], nil)
	checkMissing(t, s, slices.Concat(ids[:10], ids[:10]), nil)
	checkMissing(t, s, ids, want)
	checkMissing(t, s, slices.Concat(ids, ids[5:], ids), want)
	checkMissing(t, factset.New(), ids, modelOf(l).ids())
	checkMissing(t, nil, ids, modelOf(l).ids())
	checkMissing(t, nil, nil, nil)
	checkSet(t, s, modelOf(l[:10]))
}

// TestMissingIsAscending compares by bytes: a string that others begin with comes first, and bytes from 128 on come last.
func TestMissingIsAscending(t *testing.T) {
	want := []string{"", "\x00", "\x00\x00", "\x01", "A", "B", "a", "a\x00", "aa", "ab", "b", "\x7f", "\x80", "\u00e9", "\xff", "\xff\x00", "\xff\xff"}
	backwards := slices.Clone(want)
	slices.Reverse(backwards)
	for _, s := range []*factset.Set{nil, factset.New(), setOf(t, samples())} {
		for _, ids := range [][]string{want, backwards, slices.Concat(want, want), slices.Concat(backwards[3:], want, backwards)} {
			checkMissing(t, s, ids, want)
		}
		checkMissing(t, s, []string{"b", "a", "b"}, []string{"a", "b"})
		checkMissing(t, s, []string{"", "", ""}, []string{""})
		checkMissing(t, s, slices.Repeat([]string{"b", "a"}, 5000), []string{"a", "b"})
	}
}

func TestMissingOfStringsThatAreNoIDs(t *testing.T) {
	s := setOf(t, samples())
	for _, f := range samples() {
		all := notIDs(idOf(f))
		want := slices.Clone(all)
		slices.Sort(want)
		checkMissing(t, s, append(all, idOf(f)), want)
	}
	long := strings.Repeat("b", 1<<20)
	checkMissing(t, s, []string{long, long[1:], long}, []string{long[1:], long})
}

// TestPartExistsIfNothingIsMissing tries lists of strings of all sorts.
func TestPartExistsIfNothingIsMissing(t *testing.T) {
	l := samples()[:4]
	ids := append(idsOf(l), "", "a", idOf(revenue(0)))
	for _, some := range subsets(l) {
		s := setOf(t, some)
		for number := range 1 << len(ids) {
			list, there := []string{}, []api.Fact{}
			for i, id := range ids {
				if number>>i&1 == 1 {
					list = append(list, id, id)
				}
				if number>>i&1 == 1 && i < len(l) {
					there = append(there, l[i])
				}
			}
			if len(s.Missing(list)) == 0 {
				checkPart(t, s, list, modelOf(there))
			} else {
				checkNoPart(t, s, list)
			}
		}
	}
}
