package fact_test

import (
	"math"
	"strings"
	"testing"

	"royalty/api"
	"royalty/fact"
)

// rate is the fact of the chapter's examples.
var rate = api.Fact{Kind: api.FRate, Currency: 3, Period: 5, Version: 1, Amount: 1000000}

// show returns f with the beginning of its text, for messages.
func show(f api.Fact) api.Fact {
	f.Text = f.Text[:min(len(f.Text), 20)]
	return f
}

func checkValid(t *testing.T, f api.Fact, want bool) {
	t.Helper()
	if got := fact.Valid(f); got != want {
		t.Errorf("Valid(%+v), with a text of %d bytes, = %v, want %v", show(f), len(f.Text), got, want)
	}
}

func TestValidExamples(t *testing.T) {
	checkValid(t, rate, true)
	checkValid(t, with(rate, "Currency", 0), false)
	checkValid(t, with(rate, "Amount", 0), false)
	checkValid(t, with(rate, "ID", 1), false)
}

func TestValidAcceptsRanges(t *testing.T) {
	for _, f := range samples() {
		checkValid(t, f, true)
	}
}

// TestValidKeepsToRanges tries numbers around both ends of each range, and around 0 where the kind does not name the number.
func TestValidKeepsToRanges(t *testing.T) {
	for _, k := range kinds {
		for _, f := range []api.Fact{least(k), greatest(k)} {
			for _, name := range order[1:] {
				l, _ := limitOf(k, name)
				for _, n := range []int{l.least - 2, l.least - 1, l.least, l.least + 1, l.most - 1, l.most, l.most + 1, l.most + 2} {
					checkValid(t, with(f, name, n), n >= l.least && n <= l.most)
				}
			}
		}
	}
}

// TestValidKeepsToSmallRanges tries every number near the ranges that are small.
func TestValidKeepsToSmallRanges(t *testing.T) {
	for _, k := range kinds {
		for _, name := range order[1:] {
			l, _ := limitOf(k, name)
			for n := -3; n <= l.most+3 && l.most <= 1200; n++ {
				checkValid(t, with(least(k), name, n), n >= l.least && n <= l.most)
			}
		}
	}
}

func TestValidRefuses(t *testing.T) {
	for _, f := range invalid() {
		checkValid(t, f, false)
	}
}

func TestValidRefusesOtherKinds(t *testing.T) {
	for _, k := range kinds {
		for _, other := range kinds {
			checkValid(t, with(greatest(k), "Kind", other.kind), k.kind == other.kind)
		}
	}
	for _, other := range otherKinds {
		checkValid(t, api.Fact{Kind: other}, false)
		checkValid(t, api.Fact{Kind: other, Version: 1}, false)
	}
}

func TestValidVersions(t *testing.T) {
	for _, k := range kinds {
		for n, want := range map[int]bool{math.MinInt: false, -1: false, 0: false, 1: true, 2: true, 999: true, 1000: true, 1001: false, math.MaxInt: false} {
			checkValid(t, with(least(k), "Version", n), want)
		}
	}
}

func TestValidTexts(t *testing.T) {
	for _, k := range kinds {
		checkValid(t, withText(least(k), ""), true)
		for _, text := range []string{"a", "\x00", "\xff\xfe", "tax 10%\n", strings.Repeat("a", 1999), strings.Repeat("a", 2000), strings.Repeat("\u00e9", 1000), strings.Repeat("\x00", 2000)} {
			checkValid(t, withText(least(k), text), k.text)
		}
		for _, text := range []string{strings.Repeat("a", 2001), strings.Repeat("\u00e9", 1001), strings.Repeat("\n", 4000)} {
			checkValid(t, withText(least(k), text), false)
		}
	}
}

func TestValidClaims(t *testing.T) {
	claim := least(kinds[2])
	for _, from := range []int{-1, 0, 1, 2, 599, 600, 601, 1198, 1199, 1200, 1201} {
		for _, to := range []int{-1, 0, 1, 2, 599, 600, 601, 1198, 1199, 1200, 1201} {
			checkValid(t, with(with(claim, "From", from), "To", to), 0 <= from && from < to && to <= 1200)
		}
	}
}

func checkSame(t *testing.T, a api.Fact, b api.Fact, want bool) {
	t.Helper()
	if fact.Same(a, b) != want || fact.Same(b, a) != want {
		t.Errorf("Same(%+v, %+v) = %v, and the other way round %v, want %v", show(a), show(b), fact.Same(a, b), fact.Same(b, a), want)
	}
}

// TestSame changes each field of facts, valid or not.
func TestSame(t *testing.T) {
	for _, f := range append(samples(), invalid()...) {
		checkSame(t, f, withText(f, strings.Clone(f.Text)), true)
		for _, name := range order {
			checkSame(t, f, with(f, name, *number(&f, name)+1), false)
			checkSame(t, f, with(f, name, *number(&f, name)^math.MinInt), false)
		}
		checkSame(t, f, withText(f, f.Text+"\x00"), false)
		checkSame(t, withText(f, "ab"), withText(f, "aB"), false)
	}
}
