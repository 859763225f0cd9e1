package fact_test

import (
	"math"
	"testing"

	"royalty/api"
	"royalty/fact"
)

// wantKey is the key of f by the chapter's table.
func wantKey(f api.Fact) [3]int {
	key := [3]int{f.Kind}
	for _, k := range kinds {
		for i, name := range k.key {
			if k.kind == f.Kind && name != "" {
				key[i+1] = *number(&f, name)
			}
		}
	}
	return key
}

func checkKey(t *testing.T, f api.Fact, want [3]int) {
	t.Helper()
	if got := fact.Key(f); got != want {
		t.Errorf("Key(%+v) = %v, want %v", show(f), got, want)
	}
}

func TestKeyExample(t *testing.T) {
	checkKey(t, rate, [3]int{7, 3, 5})
}

// TestKeyOfNumberedFields uses facts whose numbers tell their places: ID is 2, Version 3, and so on.
func TestKeyOfNumberedFields(t *testing.T) {
	f := api.Fact{Text: "a"}
	for i, name := range order {
		*number(&f, name) = i + 1
	}
	for kind, want := range map[int][3]int{
		api.FPlay: {1, 7, 2}, api.FMark: {2, 7, 2}, api.FClaim: {3, 2, 0}, api.FContract: {4, 10, 12}, api.FRevenue: {5, 2, 0},
		api.FSubscription: {6, 6, 4}, api.FRate: {7, 16, 4}, api.FAdvance: {8, 2, 0}, api.FRules: {9, 12, 0}, api.FMethod: {10, 9, 12},
	} {
		checkKey(t, with(f, "Kind", kind), want)
	}
	for _, other := range otherKinds {
		checkKey(t, with(f, "Kind", other), [3]int{other, 0, 0})
	}
}

func TestKeyIsTheTable(t *testing.T) {
	for _, f := range append(samples(), invalid()...) {
		checkKey(t, f, wantKey(f))
	}
}

// TestKeyDependsOnItsNumbersOnly changes each field of a fact, also such that it is not valid.
func TestKeyDependsOnItsNumbersOnly(t *testing.T) {
	for _, k := range kinds {
		for _, f := range []api.Fact{least(k), greatest(k), {Kind: k.kind}} {
			for _, name := range order[1:] {
				in := name == k.key[0] || name == k.key[1]
				for _, n := range []int{-1, math.MinInt, math.MaxInt, 123456789} {
					if other := with(f, name, n); (fact.Key(other) != fact.Key(f)) != in {
						t.Errorf("the keys of %+v and %+v are %v and %v", show(f), show(other), fact.Key(f), fact.Key(other))
					}
				}
			}
			checkKey(t, withText(f, "another"), fact.Key(f))
		}
	}
}
