package fact_test

import (
	"math"
	"math/rand"
	"reflect"
	"strings"

	"royalty/api"
)

// limit is a row's entry for a number: its name, and its range.
type limit struct {
	name  string
	least int
	most  int
}

// kind is a row of the chapter's table. The names of the numbers in the key are "" for 0.
type kind struct {
	name   string
	kind   int
	limits []limit
	text   bool
	key    [2]string
}

// kinds is the chapter's table.
var kinds = []kind{
	{"FPlay", 1, []limit{{"ID", 1, 1000000}, {"Account", 1, 1000000}, {"Device", 1, 1000000}, {"Recording", 1, 1000000}, {"Territory", 0, 7}, {"Second", 0, 3155759999}, {"Amount", 0, 86400000}, {"Mark", 0, 1}}, false, [2]string{"Device", "ID"}},
	{"FMark", 2, []limit{{"Device", 1, 1000000}, {"ID", 1, 1000000}, {"Mark", 1, 3}}, false, [2]string{"Device", "ID"}},
	{"FClaim", 3, []limit{{"ID", 1, 1000000}, {"Recording", 1, 1000000}, {"Holder", 1, 1000000}, {"Role", 1, 2}, {"Territory", 1, 255}, {"From", 0, 1199}, {"To", 1, 1200}, {"Share", 0, 1000000}}, false, [2]string{"ID", ""}},
	{"FContract", 4, []limit{{"Holder", 1, 1000000}, {"From", 0, 1199}}, true, [2]string{"Holder", "From"}},
	{"FRevenue", 5, []limit{{"ID", 1, 1000000}, {"Period", 0, 1199}, {"Territory", 0, 7}, {"Amount", 0, 10000000000}, {"Currency", 0, 20}}, false, [2]string{"ID", ""}},
	{"FSubscription", 6, []limit{{"Account", 1, 1000000}, {"Period", 0, 1199}, {"Territory", 0, 7}, {"Amount", 0, 1000000000}, {"Currency", 0, 20}}, false, [2]string{"Account", "Period"}},
	{"FRate", 7, []limit{{"Currency", 1, 20}, {"Period", 0, 1199}, {"Amount", 1, 10000000}}, false, [2]string{"Currency", "Period"}},
	{"FAdvance", 8, []limit{{"ID", 1, 1000000}, {"Account", 1, 1000}, {"Period", 0, 1199}, {"Amount", 0, 100000000000}}, false, [2]string{"ID", ""}},
	{"FRules", 9, []limit{{"From", 0, 1199}}, true, [2]string{"From", ""}},
	{"FMethod", 10, []limit{{"Territory", 0, 7}, {"From", 0, 1199}, {"Mark", 1, 2}}, false, [2]string{"Territory", "From"}},
}

// order is the order of the numbers in an encoding.
var order = []string{"Kind", "ID", "Version", "Period", "Second", "Account", "Device", "Recording", "Territory", "Holder", "Role", "From", "To", "Amount", "Share", "Currency", "Mark"}

// otherKinds are numbers that are none of the ten kinds.
var otherKinds = []int{0, -1, -10, 11, 12, 100, 1<<32 + 1, 1<<32 + 10, math.MinInt, math.MinInt + 1, math.MaxInt}

// number returns where f keeps the number with this name.
func number(f *api.Fact, name string) *int {
	return reflect.ValueOf(f).Elem().FieldByName(name).Addr().Interface().(*int)
}

// with returns f with another number.
func with(f api.Fact, name string, n int) api.Fact {
	*number(&f, name) = n
	return f
}

func withText(f api.Fact, text string) api.Fact {
	f.Text = text
	return f
}

// limitOf returns the entry of k for a number, or false if k does not name it.
func limitOf(k kind, name string) (limit, bool) {
	switch name {
	case "Kind":
		return limit{name, k.kind, k.kind}, true
	case "Version":
		return limit{name, 1, 1000}, true
	}
	for _, l := range k.limits {
		if l.name == name {
			return l, true
		}
	}
	return limit{}, false
}

// least returns the fact of a kind whose numbers are the least ones, and greatest the one whose numbers are the greatest ones; but the From of a claim is 0, and its To is 1200.
func least(k kind) api.Fact {
	f := api.Fact{Kind: k.kind, Version: 1}
	for _, l := range k.limits {
		*number(&f, l.name) = l.least
	}
	if k.kind == api.FClaim {
		f.To = 1200
	}
	return f
}

func greatest(k kind) api.Fact {
	f := api.Fact{Kind: k.kind, Version: 1000}
	for _, l := range k.limits {
		*number(&f, l.name) = l.most
	}
	if k.kind == api.FClaim {
		f.From = 0
	}
	if k.text {
		f.Text = strings.Repeat("\xff", 2000)
	}
	return f
}

// random returns any valid fact of a kind. Some of its numbers are ends of their ranges, and some are small.
func random(r *rand.Rand, k kind) api.Fact {
	f := api.Fact{Kind: k.kind}
	for _, name := range order[1:] {
		l, ok := limitOf(k, name)
		if !ok {
			continue
		}
		choices := []int{l.least, l.most, l.least + r.Intn(l.most-l.least+1), l.least + r.Intn(min(l.most-l.least, 130)+1)}
		*number(&f, name) = choices[r.Intn(len(choices))]
	}
	if f.Kind == api.FClaim && f.From >= f.To {
		f.To = f.From + 1 + r.Intn(1200-f.From)
	}
	if k.text {
		f.Text = randomText(r)
	}
	return f
}

// randomText returns a text of any bytes, often a short one.
func randomText(r *rand.Rand) string {
	code := make([]byte, []int{0, 1, 2, r.Intn(70), r.Intn(2001)}[r.Intn(5)])
	r.Read(code)
	return string(code)
}

// samples returns valid facts of all kinds: the least and the greatest one, those that differ from one of them in one number, which is at the end of its range, and random ones. Those of a kind follow each other; some may be the same.
func samples() []api.Fact {
	r := rand.New(rand.NewSource(5))
	all := []api.Fact{}
	for _, k := range kinds {
		for _, f := range []api.Fact{least(k), greatest(k)} {
			all = append(all, f, with(f, "Version", 1), with(f, "Version", 1000))
			for _, l := range k.limits {
				all = append(all, with(f, l.name, l.least), with(f, l.name, l.most))
			}
		}
		for range 50 {
			all = append(all, random(r, k))
		}
	}
	return all
}

// invalid returns facts of all kinds and of none that are not valid, one for each reason for which a fact may not be.
func invalid() []api.Fact {
	all := []api.Fact{{}}
	for _, k := range kinds {
		for _, f := range []api.Fact{least(k), greatest(k)} {
			for _, other := range otherKinds {
				all = append(all, with(f, "Kind", other))
			}
			for _, name := range order[1:] {
				all = append(all, outside(k, f, name)...)
			}
			all = append(all, outsideText(k, f)...)
		}
	}
	claim := least(kinds[2])
	for _, c := range [][2]int{{0, 0}, {1, 1}, {1, 0}, {600, 600}, {601, 600}, {1199, 1199}, {1199, 1}, {1200, 1200}, {1199, 0}, {-1, 0}, {-2, -1}, {1200, 1201}, {math.MaxInt, math.MinInt}, {math.MinInt, math.MaxInt}} {
		all = append(all, with(with(claim, "From", c[0]), "To", c[1]))
	}
	return all
}

// outside returns f with numbers of this name that are just outside of the range, and ones that are far from it; any but 0 if the kind does not name it.
func outside(k kind, f api.Fact, name string) []api.Fact {
	l, _ := limitOf(k, name)
	all := []api.Fact{}
	for _, n := range []int{l.least - 1, l.most + 1, math.MinInt, math.MaxInt, math.MinInt + 1, -api.MaxInt, api.MaxInt, l.least - 1<<32, l.most + 1<<32} {
		all = append(all, with(f, name, n))
	}
	return all
}

// outsideText returns f with texts that its kind does not have.
func outsideText(k kind, f api.Fact) []api.Fact {
	texts := []string{strings.Repeat("a", 2001), strings.Repeat("a", 65536), strings.Repeat("a", 65537), strings.Repeat("\u00e9", 1001)}
	if !k.text {
		texts = append(texts, "a", "\x00", " ", strings.Repeat("a", 2000))
	}
	all := []api.Fact{}
	for _, text := range texts {
		all = append(all, withText(f, text))
	}
	return all
}
