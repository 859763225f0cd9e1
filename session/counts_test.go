package session_test

import (
	"math/rand"
	"strings"
	"testing"

	"royalty/api"
	"royalty/session"
)

func checkCounts(t *testing.T, f api.Fact, want bool) {
	t.Helper()
	if session.Counts(f) != want {
		f.Text = strings.ToValidUTF8(f.Text, "?")
		t.Errorf("Counts(%+v) is %v", f, !want)
	}
}

func TestCountsPlays(t *testing.T) {
	for _, c := range []struct {
		amount int
		want   bool
	}{{0, false}, {1, false}, {29000, false}, {29999, false}, {30000, true}, {30001, true}, {60000, true}, {86399999, true}, {86400000, true}, {86400001, false}, {-30000, false}} {
		f := play(1, 5, c.amount)
		checkCounts(t, f, c.want)
		checkCounts(t, preview(f), false)
		for _, mark := range append(extremes, 2, 3) {
			f.Mark = mark
			checkCounts(t, f, c.want && mark == 0)
		}
	}
}

// TestCountsEnds has plays at both ends of the ranges of their fields, and just outside.
func TestCountsEnds(t *testing.T) {
	low := api.Fact{Kind: 1, ID: 1, Version: 1, Account: 1, Device: 1, Recording: 1, Amount: 30000}
	high := api.Fact{Kind: 1, ID: 1000000, Version: 1000, Account: 1000000, Device: 1000000, Recording: 1000000, Territory: 7, Second: 3155759999, Amount: 86400000}
	checkCounts(t, low, true)
	checkCounts(t, high, true)
	for i := range fields(&low) {
		below, above := low, high
		*fields(&below)[i]--
		*fields(&above)[i]++
		checkCounts(t, below, false)
		checkCounts(t, above, false)
	}
}

func TestCountsOtherKinds(t *testing.T) {
	for _, f := range otherKinds() {
		checkCounts(t, f, false)
		f.Amount, f.Mark = 60000, 0
		checkCounts(t, f, false)
	}
	for kind := -2; kind <= 13; kind++ {
		f := play(1, 5, 60000)
		f.Kind = kind
		checkCounts(t, f, kind == 1)
	}
}

func TestCountsInvalid(t *testing.T) {
	for _, f := range invalid() {
		checkCounts(t, f, false)
	}
	for _, text := range []string{"a", "\x00", strings.Repeat("\xff", 3000)} {
		checkCounts(t, with(play(1, 5, 60000), func(f *api.Fact) { f.Text = text }), false)
	}
}

// TestCountsArbitrary changes some numbers of a play.
func TestCountsArbitrary(t *testing.T) {
	r := rand.New(rand.NewSource(1))
	numbers := append([]int{2, 3, 7, 8, 29999, 30000, 1000000, 1000001, 86400000, 86400001, 3155759999, 3155760000}, extremes...)
	for range 20000 {
		f := play(1, 5, 60000)
		for range 1 + r.Intn(4) {
			all := fields(&f)
			*all[r.Intn(len(all))] = numbers[r.Intn(len(numbers))]
		}
		checkCounts(t, f, isPlay(f) && qualifies(f))
	}
}
