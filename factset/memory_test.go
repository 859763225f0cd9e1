package factset_test

import (
	"slices"
	"strings"
	"testing"
	"unsafe"

	"royalty/api"
	"royalty/factset"
)

// spoil overwrites all elements of l, and its spare capacity.
func spoil[E any](l []E, with E) {
	l = l[:cap(l)]
	for i := range l {
		l[i] = with
	}
}

// TestResultsAreNew overwrites results: neither the set nor another result changes.
func TestResultsAreNew(t *testing.T) {
	for _, l := range [][]api.Fact{nil, samples(), revenues(0, 1000)} {
		s, want := setOf(t, l), modelOf(l)
		strange := []string{"b", "a", "b", idOf(revenue(2000))}
		ids, facts, missing := s.IDs(), s.Facts(), s.Missing(strange)
		moreIDs, moreFacts, moreMissing := s.IDs(), s.Facts(), s.Missing(strange)
		wantFacts, wantMissing := slices.Clone(facts), slices.Clone(missing)
		spoil(ids, "x")
		spoil(facts, revenue(3000))
		spoil(missing, "x")
		checkSet(t, s, want)
		checkMissing(t, s, strange, wantMissing)
		if !slices.Equal(moreIDs, want.ids()) || !slices.Equal(moreFacts, wantFacts) || !slices.Equal(moreMissing, wantMissing) {
			t.Error("a result has changed with another one")
		}
	}
}

func TestPartsAreNew(t *testing.T) {
	s := setOf(t, samples())
	ids := s.IDs()
	part, _ := s.Part(ids[:5])
	want := part.IDs()
	spoil(part.IDs(), "x")
	spoil(part.Facts(), revenue(0))
	spoil(part.Missing(ids), "x")
	checkSet(t, s, modelOf(samples()))
	if !slices.Equal(part.IDs(), want) {
		t.Errorf("the part has the IDs %x, want %x", part.IDs(), want)
	}
}

// TestArgumentsStay checks that slices that are passed in, and their spare capacity, are neither changed nor kept.
func TestArgumentsStay(t *testing.T) {
	s := setOf(t, samples())
	there := append(idsOf(samples()[2:6]), idsOf(samples()[2:6])...)
	strange := append([]string{"b", "a", "b", "a"}, there...)
	for _, list := range [][]string{there, strange} {
		space := append(slices.Clone(list), "y", "x", "z", "x")
		ids := space[:len(list)]
		before := slices.Clone(space)
		missing := s.Missing(ids)
		part, ok := s.Part(ids)
		if !slices.Equal(space, before) {
			t.Errorf("an argument became %x, and was %x", space, before)
		}
		wantMissing := slices.Clone(missing)
		spoil(space, "x")
		if !slices.Equal(missing, wantMissing) {
			t.Errorf("Missing became %x, and was %x", missing, wantMissing)
		}
		if ok {
			checkSet(t, part, modelOf(samples()[2:6]))
		}
		checkSet(t, s, modelOf(samples()))
	}
}

// overlap reports whether two strings share memory.
func overlap(a string, b string) bool {
	if a == "" || b == "" {
		return false
	}
	x, y := uintptr(unsafe.Pointer(unsafe.StringData(a))), uintptr(unsafe.Pointer(unsafe.StringData(b)))
	return x < y+uintptr(len(b)) && y < x+uintptr(len(a))
}

func checkApart(t *testing.T, what string, a []string, b []string) {
	t.Helper()
	for _, x := range a {
		for _, y := range b {
			if overlap(x, y) {
				t.Errorf("%s share memory: %.40q and %.40q", what, x, y)
				return
			}
		}
	}
}

func textsOf(l []api.Fact) []string {
	texts := []string{}
	for _, f := range l {
		texts = append(texts, f.Text)
	}
	return texts
}

// TestStringsAreNew checks that strings, too, share no memory with what was passed in, with the set, or with each other's results.
func TestStringsAreNew(t *testing.T) {
	text := strings.Repeat("tax 10%\n", 100)
	f := api.Fact{Kind: api.FContract, Version: 1, Holder: 6, From: 3, Text: text[8:80]}
	s := factset.New()
	checkAdd(t, s, f, true, api.OK)
	id := idOf(f)
	got, _ := s.Get(id)
	again, _ := s.Get(id)
	facts := textsOf(s.Facts())
	checkApart(t, "a fact that was added and one of the set", []string{text}, append(facts, got.Text))
	checkApart(t, "two facts of the set", facts, append(textsOf(s.Facts()), got.Text))
	checkApart(t, "two facts of the set", []string{got.Text}, []string{again.Text})
	checkApart(t, "the IDs", s.IDs(), s.IDs())

	strange := "some strings"
	checkApart(t, "what is missing and what was passed in", []string{strange}, s.Missing([]string{strange[:4], strange[5:]}))

	long := id + strange
	part, _ := s.Part([]string{long[:32]})
	checkApart(t, "a part and what was passed in", []string{long}, part.IDs())
	checkApart(t, "a part and its set", s.IDs(), part.IDs())
	other := factset.New()
	checkUnion(t, other, s, api.OK)
	checkApart(t, "a union and a set", s.IDs(), other.IDs())
	checkApart(t, "a union and a set", facts, textsOf(other.Facts()))
}

// lent returns a string equal to s, and the memory that it lies in.
func lent(s string) (string, []byte) {
	space := []byte(s)
	return unsafe.String(unsafe.SliceData(space), len(space)), space
}

// TestStringsAreNotKept overwrites the memory of strings that were passed in: nothing may change with it.
func TestStringsAreNotKept(t *testing.T) {
	f := api.Fact{Kind: api.FContract, Version: 1, Holder: 6, From: 3, Text: "tax 10%\n"}
	want, id := modelOf([]api.Fact{f}), idOf(f)
	text, textSpace := lent(f.Text)
	f.Text = text
	s := factset.New()
	checkAdd(t, s, f, true, api.OK)
	spoil(textSpace, 'x')
	checkSet(t, s, want)

	known, knownSpace := lent(id)
	part, _ := s.Part([]string{known})
	strange, strangeSpace := lent("b")
	missing := s.Missing([]string{strange, known, strange})
	spoil(knownSpace, 'x')
	spoil(strangeSpace, 'x')
	checkSet(t, part, want)
	checkSet(t, s, want)
	if !slices.Equal(missing, []string{"b"}) {
		t.Errorf("Missing became %q", missing)
	}
}
