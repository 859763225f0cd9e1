package rulelang_test

import (
	"math/rand"
	"slices"
	"testing"

	"royalty/api"
	"royalty/rulelang"
)

// examples are the chapter's lines of rules.
var examples = []struct {
	line string
	rule api.Rule
}{
	{"hold if account streams > 500", api.Rule{Action: api.RHold, Subject: api.SAccount, Measure: api.MStreams, N: 500}},
	{"void if cluster devices > 20", api.Rule{Action: api.RVoid, Subject: api.SCluster, Measure: api.MDevices, N: 20}},
	{"allow account 7", api.Rule{Action: api.RAllow, Subject: api.SAccount, N: 7}},
}

func TestPrintExamples(t *testing.T) {
	var all []api.Rule
	want := ""
	for _, x := range examples {
		checkPrint(t, []api.Rule{x.rule}, x.line+"\n")
		all = append(all, x.rule)
		want += x.line + "\n"
	}
	checkPrint(t, all, want)
}

func TestPrintEmpty(t *testing.T) {
	checkPrint(t, nil, "")
	checkPrint(t, []api.Rule{}, "")
	checkPrint(t, make([]api.Rule, 0, 60), "")
}

func TestPrintSamples(t *testing.T) {
	for _, r := range samples() {
		checkPrint(t, []api.Rule{r}, wantLine(r)+"\n")
	}
}

// TestPrintWords writes the lines of all sorts of rules out.
func TestPrintWords(t *testing.T) {
	checkPrint(t, []api.Rule{
		{Action: api.RHold, Subject: api.SAccount, Measure: api.MStreams},
		{Action: api.RHold, Subject: api.SDevice, Measure: api.MAccounts, N: 1},
		{Action: api.RVoid, Subject: api.SDevice, Measure: api.MRecordings, N: 12},
		{Action: api.RVoid, Subject: api.SCluster, Measure: api.MStreams, N: 1000000},
		{Action: api.RAllow, Subject: api.SAccount, N: 1},
		{Action: api.RAllow, Subject: api.SAccount, N: 1000000},
	}, `hold if account streams > 0
hold if device accounts > 1
void if device recordings > 12
void if cluster streams > 1000000
allow account 1
allow account 1000000
`)
}

// TestPrintLists prints lists of every allowed length, and longer ones.
func TestPrintLists(t *testing.T) {
	r := rand.New(rand.NewSource(1))
	for n := range 60 {
		for range 5 {
			l := some(r, n)
			if n <= 50 {
				checkPrint(t, l, wantText(l))
			} else {
				checkPrintRefuses(t, l)
			}
		}
	}
	checkPrintRefuses(t, some(r, 1000))
}

// TestPrintRepeats prints lists that have a rule more than once: nothing is left out, and the order stays.
func TestPrintRepeats(t *testing.T) {
	a, b := judgement(1, 1, 1, 5), exemption(5)
	checkPrint(t, []api.Rule{a, a, b, a, b, b}, wantText([]api.Rule{a, a, b, a, b, b}))
	checkPrint(t, slices.Repeat([]api.Rule{b}, 50), wantText(slices.Repeat([]api.Rule{b}, 50)))
	checkPrintRefuses(t, slices.Repeat([]api.Rule{b}, 51))
}

// TestPrintRefuses puts each rule that is not valid at every place of some lists.
func TestPrintRefuses(t *testing.T) {
	r := rand.New(rand.NewSource(2))
	for _, bad := range invalid() {
		checkPrintRefuses(t, []api.Rule{bad})
		for _, n := range []int{2, 3, 50, 51} {
			l := some(r, n)
			for i := range l {
				checkPrintRefuses(t, slices.Concat(l[:i], []api.Rule{bad}, l[i+1:]))
			}
		}
	}
}

// TestPrintArbitrary prints lists of rules that are mostly valid.
func TestPrintArbitrary(t *testing.T) {
	r := rand.New(rand.NewSource(3))
	bad := invalid()
	for range 2000 {
		l := some(r, r.Intn(55))
		if len(l) > 0 && r.Intn(3) == 0 {
			l[r.Intn(len(l))] = bad[r.Intn(len(bad))]
		}
		if len(l) <= 50 && !slices.ContainsFunc(l, func(x api.Rule) bool { return !rulelang.Valid(x) }) {
			checkPrint(t, l, wantText(l))
		} else {
			checkPrintRefuses(t, l)
		}
	}
}
