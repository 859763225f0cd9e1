package base_test

import (
	"math/rand"
	"slices"
	"testing"

	"royalty/api"
	"royalty/base"
	"royalty/fact"
)

func TestOfExamples(t *testing.T) {
	older := api.Fact{Kind: api.FRevenue, ID: 5, Version: 1, Amount: 10}
	newer := api.Fact{Kind: api.FRevenue, ID: 5, Version: 2, Amount: 7}
	checkBase(t, base.Of([]api.Fact{older, newer}), api.Base{Revenues: []api.Fact{newer}})
	ninth := api.Fact{Kind: api.FPlay, ID: 9, Version: 1, Account: 1, Device: 3, Recording: 1}
	second := api.Fact{Kind: api.FPlay, ID: 2, Version: 1, Account: 1, Device: 3, Recording: 1}
	checkBase(t, base.Of([]api.Fact{ninth, second}), api.Base{Plays: []api.Fact{second, ninth}})
}

func TestOfNothing(t *testing.T) {
	checkBase(t, base.Of(nil), api.Base{})
	checkBase(t, base.Of([]api.Fact{}), api.Base{})
	checkBase(t, base.Of(invalid()), api.Base{})
	for _, f := range invalid() {
		if fact.Valid(f) {
			t.Errorf("%+v is valid, so it is no sample", show(f))
		}
		checkBase(t, base.Of([]api.Fact{f}), api.Base{})
		checkBase(t, base.Of([]api.Fact{f, f, f}), api.Base{})
	}
}

// TestOfEachKind checks that a fact is in its own list, and in no other.
func TestOfEachKind(t *testing.T) {
	kinds := map[int]bool{}
	for _, f := range samples() {
		var want api.Base
		*list(&want, f.Kind) = []api.Fact{f}
		checkBase(t, base.Of([]api.Fact{f}), want)
		checkBase(t, base.Of([]api.Fact{f, f, f}), want)
		kinds[f.Kind] = true
	}
	if len(kinds) != 10 {
		t.Errorf("the samples have %d kinds", len(kinds))
	}
}

// TestOfSamples writes the prevailing facts down: the base does not rest on another package then.
func TestOfSamples(t *testing.T) {
	s := samples()
	want := api.Base{
		Plays:         []api.Fact{s[1], s[2]},
		Marks:         []api.Fact{s[4], s[5]},
		Claims:        []api.Fact{s[7]},
		Contracts:     []api.Fact{s[11], s[10], s[9]},
		Revenues:      []api.Fact{s[13], s[12]},
		Subscriptions: []api.Fact{s[14], s[15]},
		Rates:         []api.Fact{s[17], s[18]},
		Advances:      []api.Fact{s[19]},
		Rules:         []api.Fact{s[22], s[20]},
		Methods:       []api.Fact{s[24], s[25]},
	}
	checkBase(t, base.Of(s), want)
	slices.Reverse(s)
	checkBase(t, base.Of(s), want)
	checkBase(t, base.Of(slices.Concat(invalid(), s, invalid())), want)
}

// rivals returns different facts with the key of f: of several Versions, some with the same one.
func rivals(f api.Fact) []api.Fact {
	l := []api.Fact{}
	for _, v := range []int{1, 2, 128, 1000} {
		f.Version = v
		other := f
		switch f.Kind {
		case api.FMark, api.FMethod:
			other.Mark = 3 - f.Mark
		case api.FContract, api.FRules:
			other.Text = "aa"
		default:
			other.Amount = f.Amount + 1
		}
		if f.Kind == api.FClaim {
			other.Amount, other.Share = 0, f.Share-1
		}
		l = append(l, f, other)
	}
	return l
}

// ordinary returns a valid fact of each kind that has rivals.
func ordinary() []api.Fact {
	return []api.Fact{
		{Kind: api.FPlay, ID: 9, Version: 1, Account: 3, Device: 4, Recording: 5},
		{Kind: api.FMark, ID: 9, Version: 1, Device: 4, Mark: 1},
		{Kind: api.FClaim, ID: 9, Version: 1, Recording: 5, Holder: 6, Role: 2, Territory: 1, To: 1, Share: 5},
		{Kind: api.FContract, Version: 1, Holder: 6, From: 3, Text: "b"},
		{Kind: api.FRevenue, ID: 9, Version: 1},
		{Kind: api.FSubscription, Version: 1, Account: 3},
		{Kind: api.FRate, Version: 1, Currency: 3, Amount: 63},
		{Kind: api.FAdvance, ID: 9, Version: 1, Account: 1},
		{Kind: api.FRules, Version: 1, Text: "b"},
		{Kind: api.FMethod, Version: 1, Mark: 2},
	}
}

// permutations yields l in every order.
func permutations(l []api.Fact, yield func([]api.Fact)) {
	if len(l) == 0 {
		yield(nil)
		return
	}
	for i, f := range l {
		permutations(slices.Concat(l[:i], l[i+1:]), func(rest []api.Fact) { yield(append([]api.Fact{f}, rest...)) })
	}
}

func TestOfRivals(t *testing.T) {
	r := rand.New(rand.NewSource(1))
	for _, f := range ordinary() {
		l := rivals(f)
		for _, other := range l {
			if !fact.Valid(other) || fact.Key(other) != fact.Key(f) {
				t.Fatalf("%+v is no rival", show(other))
			}
		}
		permutations(l[:5], func(l []api.Fact) { checkOf(t, l) })
		permutations(l[4:], func(l []api.Fact) { checkOf(t, append(l, l[0])) })
		for range 50 {
			checkOf(t, someOf(r, l, 1+r.Intn(20)))
			checkOf(t, someOf(r, append(l, samples()...), 1+r.Intn(40)))
			checkOf(t, someOf(r, slices.Concat(l, samples(), invalid()), 1+r.Intn(40)))
		}
	}
}

// keyed returns valid facts with all pairs of the numbers a and b, as far as they occur in the key of the kind.
func keyed(a []int, b []int) []api.Fact {
	l := []api.Fact{}
	for _, n := range a {
		for _, m := range b {
			l = append(l,
				api.Fact{Kind: api.FPlay, ID: m, Version: 1, Account: 1, Device: n, Recording: 1},
				api.Fact{Kind: api.FMark, ID: m, Version: 1, Device: n, Mark: 1},
				api.Fact{Kind: api.FClaim, ID: n, Version: 1, Recording: m, Holder: 1, Role: 1, Territory: 1, To: 1},
				api.Fact{Kind: api.FContract, Version: 1, Holder: n, From: m},
				api.Fact{Kind: api.FRevenue, ID: n, Version: 1, Period: m},
				api.Fact{Kind: api.FSubscription, Version: 1, Account: n, Period: m},
				api.Fact{Kind: api.FRate, Version: 1, Currency: n, Period: m, Amount: 1},
				api.Fact{Kind: api.FAdvance, ID: n, Version: 1, Account: m},
				api.Fact{Kind: api.FRules, Version: 1, From: n, Text: "r"},
				api.Fact{Kind: api.FMethod, Version: 1, Territory: n, From: m, Mark: 1})
		}
	}
	return l
}

// someNumbers returns five numbers of l, in any order.
func someNumbers(r *rand.Rand, l []int) []int {
	some := []int{}
	for _, at := range r.Perm(len(l))[:5] {
		some = append(some, l[at])
	}
	return some
}

// TestOfAscends uses keys whose order is another one if they are compared as text, by their last bytes, or by the second number first.
func TestOfAscends(t *testing.T) {
	r := rand.New(rand.NewSource(2))
	numbers := []int{-1 << 62, -300, -1, 0, 1, 2, 7, 9, 10, 20, 99, 100, 127, 128, 255, 256, 257, 300, 999, 1000, 1199, 1200, 65535, 65536, 999999, 1000000, 1000001, 1 << 40}
	for range 40 {
		checkOf(t, keyed(someNumbers(r, numbers), someNumbers(r, numbers)))
	}
	l := keyed(numbers, numbers)
	b := base.Of(l)
	slices.Reverse(l)
	checkBase(t, base.Of(l), b)
	checkBase(t, base.Of(shuffled(r, l)), b)
	for kind := 1; kind <= 10; kind++ {
		in := *list(&b, kind)
		if len(in) < 5 {
			t.Errorf("%s has only %d facts", names[kind], len(in))
		}
		for i := 1; i < len(in); i++ {
			if !less(fact.Key(in[i-1]), fact.Key(in[i])) {
				t.Errorf("%s has %v before %v", names[kind], fact.Key(in[i-1]), fact.Key(in[i]))
			}
		}
	}
}

func TestOfArbitraryFacts(t *testing.T) {
	r := rand.New(rand.NewSource(3))
	for _, numbers := range numberSets() {
		for range 200 {
			l := someOf(r, samples(), r.Intn(5))
			for range r.Intn(20) {
				l = append(l, arbitrary(r, numbers))
			}
			checkOf(t, shuffled(r, l))
		}
	}
}

// TestOfMany checks lists that are longer than a set of facts.
func TestOfMany(t *testing.T) {
	l := []api.Fact{}
	for i := range 10000 {
		l = append(l, api.Fact{Kind: api.FRevenue, ID: 1 + i*7919%5000, Version: 1 + i/5000})
	}
	b := base.Of(l)
	if len(b.Revenues) != 5000 || len(all(b)) != 5000 {
		t.Fatalf("there are %d facts, and %d of them revenue", len(all(b)), len(b.Revenues))
	}
	for i, f := range b.Revenues {
		if f != (api.Fact{Kind: api.FRevenue, ID: i + 1, Version: 2}) {
			t.Errorf("fact %d is %+v", i, f)
		}
	}
}

// TestOfUnion checks that the order and the number of occurrences make no difference, and that the base of two lists is that of the facts in both bases.
func TestOfUnion(t *testing.T) {
	r := rand.New(rand.NewSource(4))
	pool := slices.Concat(samples(), invalid())
	for _, f := range ordinary() {
		pool = append(pool, rivals(f)...)
	}
	for range 300 {
		a, b := someOf(r, pool, r.Intn(60)), someOf(r, pool, r.Intn(60))
		both := base.Of(slices.Concat(a, b))
		checkBase(t, base.Of(slices.Concat(b, a)), both)
		checkBase(t, base.Of(shuffled(r, slices.Concat(a, b, a, a))), both)
		checkBase(t, base.Of(slices.Concat(all(base.Of(a)), all(base.Of(b)))), both)
		checkBase(t, base.Of(all(both)), both)
	}
}

// added is b, the base of l, with f as P7.3 says.
func added(b api.Base, l []api.Fact, f api.Fact) api.Base {
	b = copyOf(b)
	if !fact.Valid(f) || slices.Contains(l, f) || slices.ContainsFunc(l, func(other api.Fact) bool { return fact.Prevails(other, f) }) {
		return b
	}
	in := list(&b, f.Kind)
	at := 0
	for at < len(*in) && less(fact.Key((*in)[at]), fact.Key(f)) {
		at++
	}
	if at < len(*in) && fact.Key((*in)[at]) == fact.Key(f) {
		(*in)[at] = f
		return b
	}
	*in = slices.Insert(*in, at, f)
	return b
}

// TestOfOneMore puts a further fact at every place of a list.
func TestOfOneMore(t *testing.T) {
	r := rand.New(rand.NewSource(5))
	for _, f := range ordinary() {
		candidates := slices.Concat(rivals(f), someOf(r, invalid(), 20), samples())
		l := someOf(r, candidates, 12)
		before := base.Of(l)
		for _, more := range candidates {
			want := added(before, l, more)
			for at := range len(l) + 1 {
				checkBase(t, base.Of(slices.Insert(slices.Clone(l), at, more)), want)
			}
		}
	}
}
