package fact_test

import (
	"math"
	"math/rand"
	"testing"

	"royalty/api"
	"royalty/fact"
)

func checkPrevails(t *testing.T, a api.Fact, b api.Fact, want bool) {
	t.Helper()
	if got := fact.Prevails(a, b); got != want {
		t.Errorf("Prevails(%+v, %+v) = %v, want %v", show(a), show(b), got, want)
	}
}

// checkOver checks that a prevails over b, and b not over a.
func checkOver(t *testing.T, a api.Fact, b api.Fact) {
	t.Helper()
	checkPrevails(t, a, b, true)
	checkPrevails(t, b, a, false)
}

// checkNeither checks that neither a nor b prevails.
func checkNeither(t *testing.T, a api.Fact, b api.Fact) {
	t.Helper()
	checkPrevails(t, a, b, false)
	checkPrevails(t, b, a, false)
}

// rivals returns facts with the key of f, which is valid: of several Versions, and with other numbers and texts. Some may be the same.
func rivals(r *rand.Rand, k kind, f api.Fact) []api.Fact {
	all := []api.Fact{f}
	for range 12 {
		other := random(r, k)
		for _, name := range k.key {
			if name != "" {
				*number(&other, name) = *number(&f, name)
			}
		}
		other.Version = []int{1, 1, 127, 128, 1000}[r.Intn(5)]
		all = append(all, other)
	}
	return all
}

// newer returns f, which is not valid, with the Version 2, unless that is what f lacks.
func newer(f api.Fact) api.Fact {
	if f.Version < 1 || f.Version > 1000 {
		return f
	}
	return with(f, "Version", 2)
}

func TestPrevailsExample(t *testing.T) {
	checkOver(t, with(with(rate, "Version", 2), "Amount", 5), with(with(rate, "Version", 1), "Amount", 9))
}

// TestPrevailsByVersion compares Versions as numbers, whatever their encodings are (127 has the bytes fe 01, 128 the bytes 80 02), and whatever the rest is.
func TestPrevailsByVersion(t *testing.T) {
	versions := []int{1, 2, 31, 32, 63, 64, 127, 128, 129, 500, 999, 1000}
	for _, k := range kinds {
		low, high := least(k), greatest(k)
		for _, name := range k.key {
			if name != "" {
				*number(&high, name) = *number(&low, name)
			}
		}
		for i, older := range versions {
			for _, newer := range versions[i+1:] {
				for _, pair := range [][2]api.Fact{{low, high}, {high, low}, {low, low}} {
					checkOver(t, with(pair[0], "Version", newer), with(pair[1], "Version", older))
				}
			}
		}
	}
}

// TestPrevailsByEncoding uses facts whose encodings compare in another way than their numbers and texts do: 127 has the bytes fe 01, 128 the bytes 80 02, and the length of a text comes before it.
func TestPrevailsByEncoding(t *testing.T) {
	checkOver(t, with(rate, "Amount", 2), with(rate, "Amount", 1))
	checkOver(t, with(rate, "Amount", 64), with(rate, "Amount", 63))
	checkOver(t, with(rate, "Amount", 127), with(rate, "Amount", 128))
	checkOver(t, with(rate, "Amount", 127), with(rate, "Amount", 8192))
	checkOver(t, with(rate, "Amount", 191), with(rate, "Amount", 127))
	rules := api.Fact{Kind: api.FRules, Version: 3, From: 7}
	checkOver(t, withText(rules, "a"), rules)
	checkOver(t, withText(rules, "aa"), withText(rules, "b"))
	checkOver(t, withText(rules, "ab"), withText(rules, "aB"))
	checkOver(t, withText(rules, "a\xff"), withText(rules, "a\x7f"))
	checkOver(t, withText(rules, "a\x00"), withText(rules, "a"))
	claim := api.Fact{Kind: api.FClaim, ID: 1, Version: 1, Recording: 5, Holder: 5, Role: 1, Territory: 1, To: 9, Share: 5}
	checkOver(t, with(claim, "Recording", 6), with(claim, "Holder", 1000000))
	checkOver(t, with(claim, "Role", 2), with(claim, "Share", 63))
}

func TestPrevailsOverItself(t *testing.T) {
	for _, f := range samples() {
		checkNeither(t, f, f)
	}
}

func TestPrevailsNeedsTheSameKey(t *testing.T) {
	for _, k := range kinds {
		f := least(k)
		for _, name := range k.key {
			if name != "" {
				checkNeither(t, f, with(with(f, name, *number(&f, name)+1), "Version", 2))
			}
		}
		for _, other := range kinds {
			if other.kind != k.kind {
				checkNeither(t, f, with(least(other), "Version", 2))
			}
		}
	}
}

// TestPrevailsNeedsValidFacts compares facts that are not valid with valid ones that have the same key, where they have one, and with each other.
func TestPrevailsNeedsValidFacts(t *testing.T) {
	for _, f := range invalid() {
		checkNeither(t, f, f)
		checkNeither(t, f, newer(f))
		for _, k := range kinds {
			if k.kind != f.Kind {
				continue
			}
			checkNeither(t, f, least(k))
			checkNeither(t, newer(f), least(k))
			checkNeither(t, f, with(greatest(k), "Version", 2))
			checkNeither(t, with(f, "Version", math.MaxInt), greatest(k))
		}
	}
	checkNeither(t, with(rate, "Version", 1001), rate)
	checkNeither(t, with(rate, "Version", 0), rate)
}

// TestPrevailsIsTheDefinition checks also that of two different facts with the same key exactly one prevails.
func TestPrevailsIsTheDefinition(t *testing.T) {
	r := rand.New(rand.NewSource(7))
	for range 50 {
		for _, k := range kinds {
			all := rivals(r, k, random(r, k))
			for _, a := range all {
				for _, b := range all {
					newer := a.Version > b.Version
					checkPrevails(t, a, b, newer || a.Version == b.Version && wantCode(a) > wantCode(b))
					if fact.Same(a, b) == (fact.Prevails(a, b) != fact.Prevails(b, a)) {
						t.Errorf("%+v and %+v: both or neither prevails", show(a), show(b))
					}
				}
			}
		}
	}
}

func TestPrevailsIsTransitive(t *testing.T) {
	r := rand.New(rand.NewSource(8))
	for range 5 {
		for _, k := range kinds {
			all := rivals(r, k, random(r, k))
			for _, a := range all {
				for _, b := range all {
					for _, c := range all {
						if fact.Prevails(a, b) && fact.Prevails(b, c) {
							checkPrevails(t, a, c, true)
						}
					}
				}
			}
		}
	}
}
