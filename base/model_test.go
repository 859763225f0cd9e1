package base_test

import (
	"math"
	"math/rand"
	"slices"
	"strconv"
	"strings"
	"testing"

	"royalty/api"
	"royalty/base"
	"royalty/fact"
)

// extremes are numbers that valid facts do not have, or only in some fields.
var extremes = []int{math.MinInt, math.MinInt + 1, -1 << 32, -1, 0, 1, 7, 255, 256, 1 << 32, math.MaxInt - 1, math.MaxInt}

// samples returns different valid facts of all kinds. Some of them are about the same thing.
func samples() []api.Fact {
	return []api.Fact{
		{Kind: api.FPlay, ID: 9, Version: 1, Account: 3, Device: 4, Recording: 5, Territory: 7, Second: 3155759999, Amount: 60000},
		{Kind: api.FPlay, ID: 9, Version: 1, Account: 3, Device: 4, Recording: 5, Territory: 7, Second: 3155759999, Amount: 60000, Mark: 1},
		{Kind: api.FPlay, ID: 4, Version: 2, Account: 3, Device: 9, Recording: 5, Territory: 7, Second: 5},
		{Kind: api.FMark, ID: 9, Version: 1, Device: 4, Mark: 2},
		{Kind: api.FMark, ID: 9, Version: 1, Device: 4, Mark: 3},
		{Kind: api.FMark, ID: 300, Version: 1, Device: 4, Mark: 1},
		{Kind: api.FClaim, ID: 9, Version: 1, Recording: 5, Holder: 6, Role: 2, Territory: 255, To: 1200, Share: 1000000},
		{Kind: api.FClaim, ID: 9, Version: 3, Recording: 7, Holder: 8, Role: 1, Territory: 1, From: 5, To: 6},
		{Kind: api.FContract, Version: 1, Holder: 6, From: 3, Text: "tax 10%\n"},
		{Kind: api.FContract, Version: 1, Holder: 6, From: 3, Text: "tax 11%\n"},
		{Kind: api.FContract, Version: 1, Holder: 6, Text: "tax 12%\n"},
		{Kind: api.FContract, Version: 1, Holder: 3, From: 6},
		{Kind: api.FRevenue, ID: 1000000, Version: 1000, Period: 1199, Territory: 7, Amount: 10000000000, Currency: 20},
		{Kind: api.FRevenue, ID: 70000, Version: 1, Period: 1199},
		{Kind: api.FSubscription, Version: 1, Account: 3, Period: 8, Amount: 1000},
		{Kind: api.FSubscription, Version: 1, Account: 8, Period: 3, Amount: 1000},
		{Kind: api.FRate, Version: 1, Currency: 3, Period: 5, Amount: 1000000},
		{Kind: api.FRate, Version: 2, Currency: 3, Period: 5, Amount: 7},
		{Kind: api.FRate, Version: 1, Currency: 5, Period: 3, Amount: 8},
		{Kind: api.FAdvance, ID: 9, Version: 1, Account: 1000, Period: 8, Amount: 5},
		{Kind: api.FRules, Version: 1, From: 7, Text: strings.Repeat("\xff", 2000)},
		{Kind: api.FRules, Version: 1, From: 7, Text: strings.Repeat("\xff", 1999) + "\x00"},
		{Kind: api.FRules, Version: 1, Text: "x"},
		{Kind: api.FMethod, Version: 1, Territory: 7, From: 3, Mark: 2},
		{Kind: api.FMethod, Version: 1, Territory: 3, From: 7, Mark: 1},
		{Kind: api.FMethod, Version: 2, Territory: 7, From: 3, Mark: 1},
	}
}

// invalid returns facts that are not valid. Some have the keys of samples, and greater Versions.
func invalid() []api.Fact {
	all := []api.Fact{{}, {Kind: math.MinInt}, {Kind: math.MaxInt, ID: math.MaxInt, Version: 1}}
	for _, f := range samples() {
		for _, change := range []func(){
			func() { f.Kind = 0 },
			func() { f.Kind = 11 },
			func() { f.Kind = -f.Kind },
			func() { f.Version = 0 },
			func() { f.Version = 1001 },
			func() { f.ID = math.MinInt },
			func() { f.ID, f.Version = -1, 9 },
			func() { f.Device, f.Version = -1, 9 },
			func() { f.Holder, f.Version = math.MaxInt, 9 },
			func() { f.From, f.Version = -1, 9 },
			func() { f.Period, f.Version = 1200, 9 },
			func() { f.Amount, f.Version = -1, 9 },
			func() { f.Text, f.Version = strings.Repeat("a", 2001), 9 },
		} {
			right := f
			change()
			all = append(all, f)
			f = right
		}
	}
	return all
}

// names are the names of the lists of a base, by the kinds of their facts.
var names = []string{1: "Plays", "Marks", "Claims", "Contracts", "Revenues", "Subscriptions", "Rates", "Advances", "Rules", "Methods"}

// list returns the list of b for a kind.
func list(b *api.Base, kind int) *[]api.Fact {
	switch kind {
	case api.FPlay:
		return &b.Plays
	case api.FMark:
		return &b.Marks
	case api.FClaim:
		return &b.Claims
	case api.FContract:
		return &b.Contracts
	case api.FRevenue:
		return &b.Revenues
	case api.FSubscription:
		return &b.Subscriptions
	case api.FRate:
		return &b.Rates
	case api.FAdvance:
		return &b.Advances
	case api.FRules:
		return &b.Rules
	default:
		return &b.Methods
	}
}

// all returns the facts in all lists of b.
func all(b api.Base) []api.Fact {
	facts := []api.Fact{}
	for kind := 1; kind <= 10; kind++ {
		facts = append(facts, *list(&b, kind)...)
	}
	return facts
}

// copyOf returns b with lists of its own.
func copyOf(b api.Base) api.Base {
	for kind := 1; kind <= 10; kind++ {
		*list(&b, kind) = slices.Clone(*list(&b, kind))
	}
	return b
}

// less compares keys element by element.
func less(a [3]int, b [3]int) bool {
	for i := range a {
		if a[i] != b[i] {
			return a[i] < b[i]
		}
	}
	return false
}

// wantOf is the base of l as the chapter defines it: each fact that is valid and over which no other one prevails, put before the first one of its list with a greater key.
func wantOf(l []api.Fact) api.Base {
	var b api.Base
	for _, f := range l {
		beaten := slices.ContainsFunc(l, func(other api.Fact) bool { return fact.Prevails(other, f) })
		if !fact.Valid(f) || beaten || slices.Contains(*list(&b, f.Kind), f) {
			continue
		}
		in := list(&b, f.Kind)
		at := 0
		for at < len(*in) && less(fact.Key((*in)[at]), fact.Key(f)) {
			at++
		}
		*in = slices.Insert(*in, at, f)
	}
	return b
}

// sameBase compares bases without base.Same.
func sameBase(a api.Base, b api.Base) bool {
	for kind := 1; kind <= 10; kind++ {
		if !slices.Equal(*list(&a, kind), *list(&b, kind)) {
			return false
		}
	}
	return true
}

// show returns f with the beginning of its text in quotes, for messages.
func show(f api.Fact) api.Fact {
	f.Text = strconv.Quote(f.Text[:min(len(f.Text), 20)])
	return f
}

// showAll returns the beginning of a list, for messages.
func showAll(l []api.Fact) []api.Fact {
	short := []api.Fact{}
	for _, f := range l[:min(len(l), 6)] {
		short = append(short, show(f))
	}
	return short
}

// checkBase compares the lists of two bases.
func checkBase(t *testing.T, got api.Base, want api.Base) {
	t.Helper()
	for kind := 1; kind <= 10; kind++ {
		a, b := *list(&got, kind), *list(&want, kind)
		if !slices.Equal(a, b) {
			t.Errorf("%s has %d facts, want %d: %+v, want %+v", names[kind], len(a), len(b), showAll(a), showAll(b))
		}
	}
}

func checkOf(t *testing.T, l []api.Fact) {
	t.Helper()
	checkBase(t, base.Of(l), wantOf(l))
}

// shuffled returns l in another order.
func shuffled(r *rand.Rand, l []api.Fact) []api.Fact {
	l = slices.Clone(l)
	r.Shuffle(len(l), func(i, j int) { l[i], l[j] = l[j], l[i] })
	return l
}

// someOf returns n facts of l, some of them several times.
func someOf(r *rand.Rand, l []api.Fact, n int) []api.Fact {
	some := []api.Fact{}
	for range n {
		some = append(some, l[r.Intn(len(l))])
	}
	return some
}

// fields returns pointers to all numbers of f.
func fields(f *api.Fact) []*int {
	return []*int{&f.Kind, &f.ID, &f.Version, &f.Period, &f.Second, &f.Account, &f.Device, &f.Recording, &f.Territory, &f.Holder, &f.Role, &f.From, &f.To, &f.Amount, &f.Share, &f.Currency, &f.Mark}
}

// arbitrary returns a fact whose numbers are any of numbers.
func arbitrary(r *rand.Rand, numbers []int) api.Fact {
	var f api.Fact
	for _, n := range fields(&f) {
		*n = numbers[r.Intn(len(numbers))]
	}
	f.Text = []string{"", "a", "\xff\x00"}[r.Intn(3)]
	return f
}

// arbitraryBase returns a base with lists of up to n facts that Of never returns: of any kinds, in any order, with the same key several times.
func arbitraryBase(r *rand.Rand, numbers []int, n int) api.Base {
	var b api.Base
	for kind := 1; kind <= 10; kind++ {
		for range r.Intn(n + 1) {
			*list(&b, kind) = append(*list(&b, kind), arbitrary(r, numbers))
		}
	}
	return b
}

// numberSets are the numbers of which arbitrary facts are made: few ones, so that many facts agree in some of them.
func numberSets() [][]int {
	return [][]int{{1}, {-1, 0, 1, 2}, {0, 5, 1199}, {2, 3, 4, 5, 6, 7, 8, 9, 10}, extremes}
}
