package base_test

import (
	"math"
	"math/rand"
	"slices"
	"testing"

	"royalty/api"
	"royalty/base"
)

func checkPlay(t *testing.T, b api.Base, device int, id int, want api.Fact, wantOK bool) {
	t.Helper()
	if got, ok := base.Play(b, device, id); got != want || ok != wantOK {
		t.Errorf("Play(%d, %d) = %+v, %v; want %+v, %v", device, id, show(got), ok, show(want), wantOK)
	}
}

func checkMark(t *testing.T, b api.Base, device int, id int, want int) {
	t.Helper()
	if got := base.Mark(b, device, id); got != want {
		t.Errorf("Mark(%d, %d) = %d, want %d, of %+v", device, id, got, want, showAll(b.Marks))
	}
}

func checkRate(t *testing.T, b api.Base, currency int, p int, want int, wantOK bool) {
	t.Helper()
	if got, ok := base.Rate(b, currency, p); got != want || ok != wantOK {
		t.Errorf("Rate(%d, %d) = %d, %v; want %d, %v", currency, p, got, ok, want, wantOK)
	}
}

func checkHolders(t *testing.T, b api.Base, want []int) {
	t.Helper()
	if got := base.Holders(b); !slices.Equal(got, want) {
		t.Errorf("Holders = %v, want %v", got, want)
	}
}

func TestPlayAndMark(t *testing.T) {
	s := samples()
	b := base.Of(s)
	checkPlay(t, b, 4, 9, s[1], true)
	checkPlay(t, b, 9, 4, s[2], true)
	checkMark(t, b, 4, 9, 3)
	checkMark(t, b, 4, 300, 1)
	for _, pair := range [][2]int{{4, 4}, {9, 9}, {4, 0}, {0, 9}, {0, 0}, {-4, 9}, {4, 10}, {3, 9}, {math.MinInt, math.MaxInt}} {
		checkPlay(t, b, pair[0], pair[1], api.Fact{}, false)
		checkMark(t, b, pair[0], pair[1], 0)
	}
	checkPlay(t, b, 4, 300, api.Fact{}, false)
	checkMark(t, b, 9, 4, 0)
}

func TestLookUpsOfNothing(t *testing.T) {
	for _, n := range extremes {
		checkPlay(t, api.Base{}, n, n, api.Fact{}, false)
		checkMark(t, api.Base{}, n, n, 0)
		checkContract(t, api.Base{}, n, n, api.Fact{}, false)
		checkRules(t, api.Base{}, n, api.Fact{}, false)
		checkMethod(t, api.Base{}, n, n, api.ProRata)
		if n != 0 {
			checkRate(t, api.Base{}, n, 5, 0, false)
		}
	}
	checkHolders(t, api.Base{}, nil)
}

// otherLists is a base with samples in all lists but that of a kind: a look-up that reads a wrong list finds something.
func otherLists(kind int) api.Base {
	var b api.Base
	for other := 1; other <= 10; other++ {
		if other != kind {
			*list(&b, other) = samples()
		}
	}
	return b
}

// TestLookUpsInTheirLists checks that facts in other lists, of whatever kind, make no difference.
func TestLookUpsInTheirLists(t *testing.T) {
	for _, f := range samples() {
		checkPlay(t, otherLists(api.FPlay), f.Device, f.ID, api.Fact{}, false)
		checkMark(t, otherLists(api.FMark), f.Device, f.ID, 0)
		checkContract(t, otherLists(api.FContract), f.Holder, 2000, api.Fact{}, false)
		checkRules(t, otherLists(api.FRules), 2000, api.Fact{}, false)
		checkMethod(t, otherLists(api.FMethod), f.Territory, 2000, api.ProRata)
		if f.Currency != 0 {
			checkRate(t, otherLists(api.FRate), f.Currency, f.Period, 0, false)
		}
	}
	b := otherLists(api.FClaim)
	b.Contracts = nil
	checkHolders(t, b, nil)
}

// TestFirstOfSeveral uses lists with the same key several times: neither the Kind nor the Version nor validity counts.
func TestFirstOfSeveral(t *testing.T) {
	first := api.Fact{Kind: -1, ID: -5, Device: math.MinInt, Mark: -7, Text: "first"}
	second := api.Fact{Kind: api.FPlay, ID: -5, Version: 9, Device: math.MinInt, Mark: math.MaxInt, Text: "second"}
	others := []api.Fact{{ID: -5}, {Device: math.MinInt}, {ID: math.MinInt, Device: -5}}
	l := append(others, first, second)
	checkPlay(t, api.Base{Plays: l}, math.MinInt, -5, first, true)
	checkMark(t, api.Base{Marks: l}, math.MinInt, -5, -7)
	l[3], l[4] = l[4], l[3]
	checkPlay(t, api.Base{Plays: l}, math.MinInt, -5, second, true)
	checkMark(t, api.Base{Marks: l}, math.MinInt, -5, math.MaxInt)
	zero := api.Fact{Kind: 3, Amount: 1, Text: "\xff"}
	checkPlay(t, api.Base{Plays: []api.Fact{{ID: 1}, {Device: 1}, zero}}, 0, 0, zero, true)
}

func TestRate(t *testing.T) {
	b := base.Of(samples())
	checkRate(t, b, 3, 5, 7, true)
	checkRate(t, b, 5, 3, 8, true)
	for _, pair := range [][2]int{{3, 3}, {5, 5}, {3, 4}, {3, 6}, {4, 5}, {-3, 5}, {3, -5}, {20, 5}, {math.MinInt, math.MaxInt}} {
		checkRate(t, b, pair[0], pair[1], 0, false)
	}
	checkRate(t, b, 0, 5, 1000000, true)
}

// TestRateOfTheBaseUnit checks that no fact changes the rate of the currency 0.
func TestRateOfTheBaseUnit(t *testing.T) {
	b := api.Base{Rates: []api.Fact{{}, {Kind: api.FRate, Version: 1, Amount: 9}, {Kind: api.FRate, Version: 1, Period: 5, Amount: 8}}}
	for _, p := range append(extremes, 5, 1199, 1200) {
		checkRate(t, b, 0, p, 1000000, true)
		checkRate(t, api.Base{}, 0, p, 1000000, true)
	}
}

func TestRateOfSeveral(t *testing.T) {
	b := api.Base{Rates: []api.Fact{
		{Currency: -1, Period: 5, Amount: 1},
		{Currency: -1, Period: -5, Amount: math.MinInt},
		{Kind: api.FRate, Version: 3, Currency: -1, Period: -5, Amount: 2},
		{Kind: api.FRate, Version: 1, Currency: 4, Period: 7},
		{Kind: api.FRate, Version: 1, Currency: 4, Period: 7, Amount: 3},
	}}
	checkRate(t, b, -1, -5, math.MinInt, true)
	checkRate(t, b, -1, 5, 1, true)
	checkRate(t, b, 4, 7, 0, true)
	checkRate(t, b, 4, 5, 0, false)
}

func TestHolders(t *testing.T) {
	checkHolders(t, base.Of(samples()), []int{3, 6, 8})
	claim := func(holder int) api.Fact { return api.Fact{Kind: api.FClaim, Holder: holder} }
	contract := func(holder int) api.Fact { return api.Fact{Kind: api.FContract, Holder: holder} }
	checkHolders(t, api.Base{Claims: []api.Fact{claim(5), claim(5), claim(2), claim(5)}}, []int{2, 5})
	checkHolders(t, api.Base{Contracts: []api.Fact{contract(5), contract(2), contract(5)}}, []int{2, 5})
	b := api.Base{Claims: []api.Fact{claim(100), claim(9), claim(-1)}, Contracts: []api.Fact{contract(20), contract(9), contract(math.MinInt), contract(0), contract(math.MaxInt)}}
	checkHolders(t, b, []int{math.MinInt, -1, 0, 9, 20, 100, math.MaxInt})
	b.Claims, b.Contracts = b.Contracts, b.Claims
	checkHolders(t, b, []int{math.MinInt, -1, 0, 9, 20, 100, math.MaxInt})
	checkHolders(t, api.Base{Claims: []api.Fact{{}}}, []int{0})
}

// wantFirst is the first fact of l with these two numbers, which are at the places i and j of the fields.
func wantFirst(l []api.Fact, i int, n int, j int, m int) (api.Fact, bool) {
	for at := range l {
		if *fields(&l[at])[i] == n && *fields(&l[at])[j] == m {
			return l[at], true
		}
	}
	return api.Fact{}, false
}

// wantHolders are the holders that occur: each is put before the first greater one.
func wantHolders(b api.Base) []int {
	l := []int{}
	for _, f := range slices.Concat(b.Claims, b.Contracts) {
		at := 0
		for at < len(l) && l[at] < f.Holder {
			at++
		}
		if at == len(l) || l[at] != f.Holder {
			l = slices.Insert(l, at, f.Holder)
		}
	}
	return l
}

const atID, atPeriod, atDevice, atCurrency = 1, 3, 6, 15

// checkLookUps compares all look-ups with the definitions.
func checkLookUps(t *testing.T, b api.Base, n int, m int) {
	t.Helper()
	play, ok := wantFirst(b.Plays, atDevice, n, atID, m)
	checkPlay(t, b, n, m, play, ok)
	mark, _ := wantFirst(b.Marks, atDevice, n, atID, m)
	checkMark(t, b, n, m, mark.Mark)
	rate, ok := wantFirst(b.Rates, atCurrency, n, atPeriod, m)
	if n != 0 {
		checkRate(t, b, n, m, rate.Amount, ok)
	}
	checkEffect(t, b, n, m)
	checkHolders(t, b, wantHolders(b))
}

func TestLookUpsInArbitraryBases(t *testing.T) {
	r := rand.New(rand.NewSource(21))
	for _, numbers := range numberSets() {
		for range 60 {
			b := arbitraryBase(r, numbers, 12)
			for _, n := range numbers {
				for _, m := range append(extremes, numbers...) {
					checkLookUps(t, b, n, m)
				}
			}
		}
	}
}

func TestLookUpsInBasesOfFacts(t *testing.T) {
	r := rand.New(rand.NewSource(22))
	pool := slices.Concat(samples(), invalid())
	for range 100 {
		b := base.Of(someOf(r, pool, 60))
		for _, f := range samples() {
			checkLookUps(t, b, f.Device, f.ID)
			checkLookUps(t, b, f.Currency, f.Period)
			checkLookUps(t, b, f.Holder, f.From)
			checkLookUps(t, b, f.Territory, f.From)
		}
	}
}
