package factset_test

import (
	"maps"
	"slices"
	"strconv"
	"strings"
	"testing"

	"royalty/api"
	"royalty/digest"
	"royalty/fact"
	"royalty/factset"
)

// revenue returns the valid fact number i, from 0 on. All of them differ.
func revenue(i int) api.Fact {
	return api.Fact{Kind: api.FRevenue, ID: i + 1, Version: 1, Period: i % 1200, Amount: 7 * i}
}

// revenues returns the facts with the numbers from begin on and less than end.
func revenues(begin int, end int) []api.Fact {
	l := []api.Fact{}
	for i := begin; i < end; i++ {
		l = append(l, revenue(i))
	}
	return l
}

// samples returns different valid facts of all kinds. Some of them are about the same thing.
func samples() []api.Fact {
	return []api.Fact{
		{Kind: api.FPlay, ID: 9, Version: 1, Account: 3, Device: 4, Recording: 5, Territory: 7, Second: 3155759999, Amount: 60000},
		{Kind: api.FPlay, ID: 9, Version: 1, Account: 3, Device: 4, Recording: 5, Territory: 7, Second: 3155759999, Amount: 60000, Mark: 1},
		{Kind: api.FPlay, ID: 9, Version: 2, Account: 3, Device: 4, Recording: 5, Territory: 7, Second: 3155759999, Amount: 60000},
		{Kind: api.FMark, ID: 9, Version: 1, Device: 4, Mark: 2},
		{Kind: api.FMark, ID: 9, Version: 1, Device: 4, Mark: 3},
		{Kind: api.FClaim, ID: 9, Version: 1, Recording: 5, Holder: 6, Role: 2, Territory: 255, To: 1200, Share: 1000000},
		{Kind: api.FContract, Version: 1, Holder: 6, From: 3, Text: "tax 10%\n"},
		{Kind: api.FContract, Version: 1, Holder: 6, From: 3, Text: "tax 11%\n"},
		{Kind: api.FContract, Version: 1, Holder: 6, From: 3},
		{Kind: api.FRevenue, ID: 1000000, Version: 1000, Period: 1199, Territory: 7, Amount: 10000000000, Currency: 20},
		{Kind: api.FSubscription, Version: 1, Account: 3, Period: 8, Amount: 1000},
		{Kind: api.FRate, Version: 1, Currency: 3, Period: 5, Amount: 1000000},
		{Kind: api.FAdvance, ID: 9, Version: 1, Account: 1000, Period: 8, Amount: 5},
		{Kind: api.FRules, Version: 1, From: 7, Text: strings.Repeat("\xff", 2000)},
		{Kind: api.FRules, Version: 1, From: 7, Text: strings.Repeat("\xff", 1999) + "\x00"},
		{Kind: api.FMethod, Version: 1, Territory: 7, From: 3, Mark: 2},
	}
}

// invalid returns facts that are not valid.
func invalid() []api.Fact {
	all := []api.Fact{{}}
	for _, f := range samples() {
		for _, change := range []func(){
			func() { f.Kind = 0 },
			func() { f.Kind = 11 },
			func() { f.Kind = -f.Kind },
			func() { f.Version = 0 },
			func() { f.Version = 1001 },
			func() { f.ID = -1 },
			func() { f.Period = 1200 },
			func() { f.Amount = -1 },
			func() { f.Text = strings.Repeat("a", 2001) },
		} {
			right := f
			change()
			all = append(all, f)
			f = right
		}
	}
	return all
}

// notIDs returns different strings that are no IDs: some of them look like id.
func notIDs(id string) []string {
	first, last := []byte(id), []byte(id)
	first[0] ^= 1
	last[31] ^= 128
	return []string{
		"", "\x00", "a", id[:31], id[1:], id + "\x00", "\x00" + id, id + id, string(first), string(last),
		strings.Repeat("\x00", 32), strings.Repeat("\xff", 32), strings.Repeat("a", 70000),
	}
}

// idOf returns the ID of f, which is valid.
func idOf(f api.Fact) string {
	id, e := fact.ID(f)
	if e != api.OK {
		panic("the fact is not valid")
	}
	return id
}

func idsOf(l []api.Fact) []string {
	ids := []string{}
	for _, f := range l {
		ids = append(ids, idOf(f))
	}
	return ids
}

// model is a set of facts as the chapter defines it: its facts by their IDs.
type model map[string]api.Fact

func modelOf(l ...[]api.Fact) model {
	m := model{}
	for _, f := range slices.Concat(l...) {
		m[idOf(f)] = f
	}
	return m
}

// ids returns the IDs by ascending bytes.
func (m model) ids() []string {
	return slices.Sorted(maps.Keys(m))
}

// setOf returns a new set with the facts of l, which are valid.
func setOf(t *testing.T, l ...[]api.Fact) *factset.Set {
	t.Helper()
	s := factset.New()
	for _, f := range slices.Concat(l...) {
		if _, e := s.Add(f); e != api.OK {
			t.Fatalf("Add(%+v) to %d facts = %d", show(f), s.Len(), e)
		}
	}
	return s
}

// checkSet checks all that s shows against the facts that it should have.
func checkSet(t *testing.T, s *factset.Set, want model) {
	t.Helper()
	if s == nil {
		t.Error("the set is nil")
		return
	}
	ids := want.ids()
	if got := s.IDs(); !slices.Equal(got, ids) {
		t.Errorf("there are %d IDs, want %d: %x, want %x", len(got), len(ids), short(got), short(ids))
	}
	if got := s.Len(); got != len(ids) {
		t.Errorf("Len = %d, want %d", got, len(ids))
	}
	if got := s.Root(); got != digest.Root(ids) {
		t.Errorf("Root = %x, want %x", got, digest.Root(ids))
	}
	facts := []api.Fact{}
	for _, id := range ids {
		facts = append(facts, want[id])
		if got, ok := s.Get(id); got != want[id] || !ok || !s.Has(id) {
			t.Errorf("Get(%x) = %+v, %v, and Has is %v; want %+v", id, show(got), ok, s.Has(id), show(want[id]))
		}
	}
	if got := s.Facts(); !slices.Equal(got, facts) {
		t.Errorf("there are %d facts that are not the %d wanted ones in their order", len(got), len(facts))
	}
}

// show returns f with the beginning of its text in quotes, for messages.
func show(f api.Fact) api.Fact {
	f.Text = strconv.Quote(f.Text[:min(len(f.Text), 20)])
	return f
}

// short returns the beginning of a list, for messages.
func short(l []string) []string {
	return l[:min(len(l), 8)]
}

func checkAdd(t *testing.T, s *factset.Set, f api.Fact, want bool, wantError api.Errno) {
	t.Helper()
	if got, e := s.Add(f); got != want || e != wantError {
		t.Errorf("Add(%+v) to %d facts = %v, %d; want %v, %d", show(f), s.Len(), got, e, want, wantError)
	}
}

func checkUnion(t *testing.T, s *factset.Set, other *factset.Set, want api.Errno) {
	t.Helper()
	if e := s.Union(other); e != want {
		t.Errorf("Union = %d, want %d; there are %d and %d facts", e, want, s.Len(), other.Len())
	}
}

// checkPart checks that s has a part with these IDs, and that it consists of the wanted facts.
func checkPart(t *testing.T, s *factset.Set, ids []string, want model) {
	t.Helper()
	part, ok := s.Part(ids)
	if !ok {
		t.Errorf("Part(%d IDs: %x) is false", len(ids), short(ids))
		return
	}
	checkSet(t, part, want)
}

func checkNoPart(t *testing.T, s *factset.Set, ids []string) {
	t.Helper()
	if part, ok := s.Part(ids); part != nil || ok {
		t.Errorf("Part(%d IDs: %x) = a part with %d facts, %v; want nil, false", len(ids), short(ids), part.Len(), ok)
	}
}

func checkMissing(t *testing.T, s *factset.Set, ids []string, want []string) {
	t.Helper()
	if got := s.Missing(ids); !slices.Equal(got, want) {
		t.Errorf("Missing(%.60x) = %.60x, want %.60x", short(ids), short(got), short(want))
	}
}

func checkHasNot(t *testing.T, s *factset.Set, id string) {
	t.Helper()
	if f, ok := s.Get(id); f != (api.Fact{}) || ok || s.Has(id) {
		t.Errorf("Get(%.40x) = %+v, %v, and Has is %v; want a zero fact and false", id, show(f), ok, s.Has(id))
	}
}
