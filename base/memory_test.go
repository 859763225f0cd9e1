package base_test

import (
	"math/rand"
	"slices"
	"testing"
	"unsafe"

	"royalty/api"
	"royalty/base"
)

// spoil overwrites all facts of l, and its spare capacity.
func spoil(l []api.Fact) {
	l = l[:cap(l)]
	for i := range l {
		l[i] = api.Fact{Kind: -1, Text: "spoiled"}
	}
}

func spoilBase(b api.Base) {
	for kind := 1; kind <= 10; kind++ {
		spoil(*list(&b, kind))
	}
}

// spacious returns l in a slice with spare capacity, and the whole of the slice.
func spacious(l []api.Fact) ([]api.Fact, []api.Fact) {
	space := append(slices.Clone(l), samples()[0], samples()[3], samples()[6])
	return space[:len(l)], space
}

// TestOfMemory overwrites the argument and results of Of, each with its spare capacity.
func TestOfMemory(t *testing.T) {
	r := rand.New(rand.NewSource(41))
	for range 20 {
		l, space := spacious(someOf(r, slices.Concat(samples(), invalid()), r.Intn(100)))
		before := slices.Clone(space)
		a, b := base.Of(l), base.Of(l)
		want := copyOf(a)
		if !slices.Equal(space, before) {
			t.Error("Of has changed its argument")
		}
		spoil(space)
		checkBase(t, a, want)
		spoilBase(a)
		checkBase(t, b, want)
		checkBase(t, base.Of(before[:len(l)]), want)
	}
}

// TestOfListsApart appends to one list of a result: no other one changes.
func TestOfListsApart(t *testing.T) {
	for kind := 1; kind <= 10; kind++ {
		b := base.Of(samples())
		want := copyOf(b)
		spoil(*list(&b, kind))
		*list(&b, kind) = slices.Clone(*list(&want, kind))
		checkBase(t, b, want)
	}
}

// spaciousBase returns b with lists that have spare capacity, and the whole of the lists.
func spaciousBase(b api.Base) (api.Base, api.Base) {
	space := b
	for kind := 1; kind <= 10; kind++ {
		*list(&b, kind), *list(&space, kind) = spacious(*list(&b, kind))
	}
	return b, space
}

// callAll calls all functions that take a base.
func callAll(b api.Base) {
	base.Same(b, b)
	for _, f := range all(b) {
		base.Play(b, f.Device, f.ID)
		base.Mark(b, f.Device, f.ID)
		base.Contract(b, f.Holder, f.From)
		base.Rules(b, f.From)
		base.Method(b, f.Territory, f.From)
		base.Rate(b, f.Currency, f.Period)
	}
	base.Holders(b)
}

func TestArgumentsStay(t *testing.T) {
	r := rand.New(rand.NewSource(42))
	for _, b := range []api.Base{{}, base.Of(samples()), arbitraryBase(r, extremes, 5), otherLists(0)} {
		b, space := spaciousBase(b)
		before := copyOf(space)
		callAll(b)
		if !sameBase(space, before) {
			t.Error("a call has changed its argument")
		}
	}
}

// TestHoldersMemory overwrites a result of Holders.
func TestHoldersMemory(t *testing.T) {
	b := base.Of(samples())
	got := base.Holders(b)
	got = got[:cap(got)]
	for i := range got {
		got[i] = -5
	}
	checkHolders(t, b, []int{3, 6, 8})
}

// overlap reports whether two strings share memory.
func overlap(a string, b string) bool {
	if a == "" || b == "" {
		return false
	}
	beginA, beginB := uintptr(unsafe.Pointer(unsafe.StringData(a))), uintptr(unsafe.Pointer(unsafe.StringData(b)))
	return beginA < beginB+uintptr(len(b)) && beginB < beginA+uintptr(len(a))
}

// TestTextsAreNew checks that texts are copied too.
func TestTextsAreNew(t *testing.T) {
	l := samples()
	b := base.Of(l)
	for _, f := range all(b) {
		for _, other := range l {
			if overlap(f.Text, other.Text) {
				t.Errorf("Of keeps the text of %+v", show(other))
			}
		}
	}
	f := contract(0, 0, "tax 10%\n")
	b = api.Base{Plays: []api.Fact{f}, Contracts: []api.Fact{f}, Rules: []api.Fact{f}}
	play, _ := base.Play(b, 0, 0)
	contract, _ := base.Contract(b, 0, 0)
	rules, _ := base.Rules(b, 0)
	for _, got := range []api.Fact{play, contract, rules} {
		if got != f || overlap(got.Text, f.Text) {
			t.Errorf("a result is %+v, or keeps the text", show(got))
		}
	}
}
