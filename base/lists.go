package base

import (
	"maps"
	"slices"
	"strings"

	"royalty/api"
	"royalty/fact"
)

// key is what a fact is about: its kind, and two numbers.
type key = [3]int

// lists returns the lists of b by the kinds of their facts.
func lists(b *api.Base) map[int]*[]api.Fact {
	return map[int]*[]api.Fact{
		api.FPlay:         &b.Plays,
		api.FMark:         &b.Marks,
		api.FClaim:        &b.Claims,
		api.FContract:     &b.Contracts,
		api.FRevenue:      &b.Revenues,
		api.FSubscription: &b.Subscriptions,
		api.FRate:         &b.Rates,
		api.FAdvance:      &b.Advances,
		api.FRules:        &b.Rules,
		api.FMethod:       &b.Methods,
	}
}

// adders returns, for each kind, the function that adds a fact at the end of its list of b.
func adders(b *api.Base) map[int]func(api.Fact) {
	add := map[int]func(api.Fact){}
	for kind, list := range lists(b) {
		add[kind] = func(f api.Fact) { *list = append(*list, apart(f)) }
	}
	return add
}

// prevailing returns, for each key of the valid facts of l, the one over which no other prevails.
func prevailing(l []api.Fact) map[key]api.Fact {
	best := map[key]api.Fact{}
	for _, f := range l {
		if !fact.Valid(f) {
			continue
		}
		k := fact.Key(f)
		if rival, ok := best[k]; !ok || fact.Prevails(f, rival) {
			best[k] = f
		}
	}
	return best
}

// ascending returns the keys of best, compared element by element.
func ascending(best map[key]api.Fact) []key {
	return slices.SortedFunc(maps.Keys(best), func(a key, b key) int { return slices.Compare(a[:], b[:]) })
}

// apart returns f with a text that shares no memory with that of f.
func apart(f api.Fact) api.Fact {
	f.Text = strings.Clone(f.Text)
	return f
}
