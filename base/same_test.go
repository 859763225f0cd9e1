package base_test

import (
	"math/rand"
	"slices"
	"testing"

	"royalty/api"
	"royalty/base"
)

func checkSame(t *testing.T, a api.Base, b api.Base, want bool) {
	t.Helper()
	if got := base.Same(a, b); got != want {
		t.Errorf("Same = %v, want %v, of %+v and %+v", got, want, showAll(all(a)), showAll(all(b)))
	}
	if got := base.Same(b, a); got != want {
		t.Errorf("Same = %v, want %v, of %+v and %+v", got, want, showAll(all(b)), showAll(all(a)))
	}
}

func TestSameOfNothing(t *testing.T) {
	var nothing api.Base
	empty := nothing
	for kind := 1; kind <= 10; kind++ {
		*list(&empty, kind) = []api.Fact{}
	}
	checkSame(t, nothing, nothing, true)
	checkSame(t, nothing, empty, true)
	checkSame(t, empty, copyOf(empty), true)
}

// TestSameInOneList changes one list of a base.
func TestSameInOneList(t *testing.T) {
	r := rand.New(rand.NewSource(11))
	bases := []api.Base{{}, base.Of(samples()), arbitraryBase(r, extremes, 3)}
	for _, b := range bases {
		checkSame(t, b, copyOf(b), true)
		for kind := 1; kind <= 10; kind++ {
			longer := copyOf(b)
			*list(&longer, kind) = append(*list(&longer, kind), api.Fact{})
			checkSame(t, b, longer, false)
			other := copyOf(longer)
			(*list(&other, kind))[len(*list(&other, kind))-1].ID = 1
			checkSame(t, longer, other, false)
			checkSame(t, longer, copyOf(longer), true)
			for at := range *list(&b, kind) {
				shorter := copyOf(b)
				*list(&shorter, kind) = slices.Delete(*list(&shorter, kind), at, at+1)
				checkSame(t, b, shorter, false)
			}
		}
	}
}

// TestSameInOneField changes one field of one fact, at each place of each list.
func TestSameInOneField(t *testing.T) {
	r := rand.New(rand.NewSource(12))
	for range 20 {
		b := arbitraryBase(r, extremes, 4)
		for kind := 1; kind <= 10; kind++ {
			for at := range *list(&b, kind) {
				for n := range len(fields(&api.Fact{})) {
					other := copyOf(b)
					*fields(&(*list(&other, kind))[at])[n] ^= 1 << r.Intn(64)
					checkSame(t, b, other, false)
				}
				other := copyOf(b)
				(*list(&other, kind))[at].Text += "\x00"
				checkSame(t, b, other, false)
			}
		}
	}
}

// TestSameInAnotherOrder exchanges two facts of a list, and two lists of a base.
func TestSameInAnotherOrder(t *testing.T) {
	x, y := samples()[0], samples()[3]
	for kind := 1; kind <= 10; kind++ {
		var a, b api.Base
		*list(&a, kind) = []api.Fact{x, y, x}
		*list(&b, kind) = []api.Fact{y, x, x}
		checkSame(t, a, b, false)
		*list(&b, kind) = []api.Fact{x, y}
		checkSame(t, a, b, false)
		for other := 1; other < kind; other++ {
			var c api.Base
			*list(&c, other) = []api.Fact{x, y, x}
			checkSame(t, a, c, false)
			*list(&c, kind) = []api.Fact{x, y, x}
			checkSame(t, a, c, false)
		}
	}
}

func TestSameOfOf(t *testing.T) {
	r := rand.New(rand.NewSource(13))
	pool := samples()
	for range 2000 {
		a, b := base.Of(someOf(r, pool, r.Intn(4))), base.Of(someOf(r, pool, r.Intn(4)))
		checkSame(t, a, b, sameBase(a, b))
		l := someOf(r, pool, 20)
		checkSame(t, base.Of(l), base.Of(shuffled(r, l)), true)
	}
}
