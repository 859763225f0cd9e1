package base_test

import (
	"math"
	"math/rand"
	"slices"
	"testing"

	"royalty/api"
	"royalty/base"
)

func checkContract(t *testing.T, b api.Base, holder int, p int, want api.Fact, wantOK bool) {
	t.Helper()
	if got, ok := base.Contract(b, holder, p); got != want || ok != wantOK {
		t.Errorf("Contract(%d, %d) = %+v, %v; want %+v, %v; of %+v", holder, p, show(got), ok, show(want), wantOK, showAll(b.Contracts))
	}
}

func checkRules(t *testing.T, b api.Base, p int, want api.Fact, wantOK bool) {
	t.Helper()
	if got, ok := base.Rules(b, p); got != want || ok != wantOK {
		t.Errorf("Rules(%d) = %+v, %v; want %+v, %v; of %+v", p, show(got), ok, show(want), wantOK, showAll(b.Rules))
	}
}

func checkMethod(t *testing.T, b api.Base, territory int, p int, want int) {
	t.Helper()
	if got := base.Method(b, territory, p); got != want {
		t.Errorf("Method(%d, %d) = %d, want %d, of %+v", territory, p, got, want, showAll(b.Methods))
	}
}

// wantEffect is the first fact of l that begins at p or before, while none of them that does so has a greater From.
func wantEffect(l []api.Fact, p int) (api.Fact, bool) {
	for _, f := range l {
		later := slices.ContainsFunc(l, func(other api.Fact) bool { return other.From <= p && other.From > f.From })
		if f.From <= p && !later {
			return f, true
		}
	}
	return api.Fact{}, false
}

// where returns the facts of l for which is holds.
func where(l []api.Fact, is func(api.Fact) bool) []api.Fact {
	return slices.DeleteFunc(slices.Clone(l), func(f api.Fact) bool { return !is(f) })
}

// checkEffect compares what is in effect for the holder and the territory n at p with the definition.
func checkEffect(t *testing.T, b api.Base, n int, p int) {
	t.Helper()
	contract, ok := wantEffect(where(b.Contracts, func(f api.Fact) bool { return f.Holder == n }), p)
	checkContract(t, b, n, p, contract, ok)
	rules, ok := wantEffect(b.Rules, p)
	checkRules(t, b, p, rules, ok)
	method, ok := wantEffect(where(b.Methods, func(f api.Fact) bool { return f.Territory == n }), p)
	if !ok {
		method.Mark = 1
	}
	checkMethod(t, b, n, p, method.Mark)
}

func contract(holder int, from int, text string) api.Fact {
	return api.Fact{Kind: api.FContract, Version: 1, Holder: holder, From: from, Text: text}
}

func rules(from int, text string) api.Fact {
	return api.Fact{Kind: api.FRules, Version: 1, From: from, Text: text}
}

func method(territory int, from int, mark int) api.Fact {
	return api.Fact{Kind: api.FMethod, Version: 1, Territory: territory, From: from, Mark: mark}
}

func TestEffectExamples(t *testing.T) {
	b := base.Of([]api.Fact{contract(4, 6, "c"), contract(4, 0, "a"), contract(4, 3, "b")})
	checkContract(t, b, 4, 5, contract(4, 3, "b"), true)
	checkMethod(t, b, 0, 5, 1)
}

func TestContract(t *testing.T) {
	b := base.Of([]api.Fact{contract(4, 3, "a"), contract(4, 6, "b"), contract(4, 1199, "c"), contract(5, 0, "d"), contract(3, 4, "e")})
	for p, want := range map[int]api.Fact{3: contract(4, 3, "a"), 4: contract(4, 3, "a"), 5: contract(4, 3, "a"), 6: contract(4, 6, "b"), 7: contract(4, 6, "b"), 1198: contract(4, 6, "b"), 1199: contract(4, 1199, "c"), 1200: contract(4, 1199, "c"), math.MaxInt: contract(4, 1199, "c")} {
		checkContract(t, b, 4, p, want, true)
	}
	for _, p := range []int{2, 1, 0, -1, math.MinInt} {
		checkContract(t, b, 4, p, api.Fact{}, false)
	}
	checkContract(t, b, 5, 0, contract(5, 0, "d"), true)
	checkContract(t, b, 5, -1, api.Fact{}, false)
	checkContract(t, b, 3, 3, api.Fact{}, false)
	checkContract(t, b, 2, 9, api.Fact{}, false)
	checkContract(t, b, 0, 9, api.Fact{}, false)
}

func TestRules(t *testing.T) {
	b := base.Of([]api.Fact{rules(7, "b"), rules(3, "a"), rules(9, "c")})
	for p, want := range map[int]api.Fact{3: rules(3, "a"), 6: rules(3, "a"), 7: rules(7, "b"), 8: rules(7, "b"), 9: rules(9, "c"), math.MaxInt: rules(9, "c")} {
		checkRules(t, b, p, want, true)
	}
	for _, p := range []int{2, 0, -1, math.MinInt} {
		checkRules(t, b, p, api.Fact{}, false)
	}
}

// TestRulesOfAnyone checks that the numbers by which contracts and methods differ do not count for rules.
func TestRulesOfAnyone(t *testing.T) {
	b := api.Base{Rules: []api.Fact{{From: 1, Holder: 5, Territory: 3, Text: "a"}, {From: 2, Holder: -6, Territory: 7, Text: "b"}, {From: 3, ID: 9, Kind: -1, Text: "c"}}}
	for p := 1; p <= 3; p++ {
		checkRules(t, b, p, b.Rules[p-1], true)
	}
}

func TestMethod(t *testing.T) {
	b := base.Of([]api.Fact{method(0, 2, 2), method(0, 5, 1), method(0, 8, 2), method(7, 0, 2)})
	for p, want := range map[int]int{math.MinInt: 1, -1: 1, 0: 1, 1: 1, 2: 2, 4: 2, 5: 1, 7: 1, 8: 2, 1199: 2, math.MaxInt: 2} {
		checkMethod(t, b, 0, p, want)
	}
	checkMethod(t, b, 7, 0, 2)
	checkMethod(t, b, 7, -1, 1)
	checkMethod(t, b, 1, 9, 1)
	checkMethod(t, b, -1, 9, 1)
}

// TestEffectOfSeveral uses lists with the same From several times, in any order, and facts that are not valid.
func TestEffectOfSeveral(t *testing.T) {
	l := []api.Fact{
		{From: 5, Holder: 1, Territory: 1, Mark: 11, Text: "a"},
		{From: 5, Holder: 1, Territory: 1, Mark: 12, Text: "b", Version: 9, Kind: 4},
		{From: math.MinInt, Holder: 1, Territory: 1, Mark: -13, Text: "c"},
		{From: math.MinInt, Holder: 1, Territory: 1, Mark: 14, Text: "d"},
		{From: math.MaxInt, Holder: 1, Territory: 1, Mark: math.MinInt, Text: "e"},
		{From: -3, Holder: 1, Territory: 1, Text: "f"},
		{From: 5, Holder: 1, Territory: 1, Mark: 15, Text: "g"},
	}
	b := api.Base{Contracts: l, Rules: l, Methods: l}
	for p, at := range map[int]int{math.MinInt: 2, -4: 2, -3: 5, 0: 5, 4: 5, 5: 0, 6: 0, math.MaxInt - 1: 0, math.MaxInt: 4} {
		checkContract(t, b, 1, p, l[at], true)
		checkRules(t, b, p, l[at], true)
		checkMethod(t, b, 1, p, l[at].Mark)
	}
}

// TestEffectInAnyOrder puts the same facts in every order.
func TestEffectInAnyOrder(t *testing.T) {
	l := []api.Fact{contract(1, 3, "a"), contract(1, 3, "b"), contract(2, 4, "c"), contract(1, 0, "d"), contract(1, 5, "e"), contract(1, 5, "f")}
	permutations(l, func(l []api.Fact) {
		b := api.Base{Contracts: l, Rules: l, Methods: l}
		for p := -1; p <= 6; p++ {
			checkEffect(t, b, 1, p)
			checkEffect(t, b, 0, p)
		}
	})
}

// TestLaterFrom adds a contract, rules or a method to facts that begin at other times: nothing changes before it begins, and from then on it is in effect until the next one begins.
func TestLaterFrom(t *testing.T) {
	r := rand.New(rand.NewSource(31))
	for range 300 {
		froms := r.Perm(12)[:1+r.Intn(6)]
		l := []api.Fact{}
		for _, from := range froms {
			l = append(l, contract(4, from, "old"), rules(from, "old"), method(4, from, 2), contract(5, from, "other"), method(5, from, 2))
		}
		more, next := r.Intn(14), math.MaxInt
		if slices.Contains(froms, more) {
			continue
		}
		for _, from := range froms {
			if from > more {
				next = min(next, from)
			}
		}
		before := base.Of(l)
		after := base.Of(append(l, contract(4, more, "new"), rules(more, "new"), method(4, more, 1)))
		for p := -1; p <= 14; p++ {
			checkEffect(t, after, 4, p)
			checkLater(t, before, after, p, more, next)
		}
	}
}

// checkLater checks what is in effect at p, where after has facts that begin at more in addition, and the next ones begin at next.
func checkLater(t *testing.T, before api.Base, after api.Base, p int, more int, next int) {
	t.Helper()
	if more <= p && p < next {
		checkContract(t, after, 4, p, contract(4, more, "new"), true)
		checkRules(t, after, p, rules(more, "new"), true)
		checkMethod(t, after, 4, p, 1)
	} else {
		old, ok := base.Contract(before, 4, p)
		checkContract(t, after, 4, p, old, ok)
		old, ok = base.Rules(before, p)
		checkRules(t, after, p, old, ok)
		checkMethod(t, after, 4, p, base.Method(before, 4, p))
	}
	other, ok := base.Contract(before, 5, p)
	checkContract(t, after, 5, p, other, ok)
	checkMethod(t, after, 5, p, base.Method(before, 5, p))
}
