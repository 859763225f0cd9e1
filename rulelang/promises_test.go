package rulelang_test

import (
	"math/rand"
	"slices"
	"strings"
	"testing"

	"royalty/api"
	"royalty/rulelang"
)

// texts calls try with many texts, and the text that Print returns for the rules of each: without ignored lines.
func texts(seed int64, times int, try func(text string, plain string)) {
	r := rand.New(rand.NewSource(seed))
	for range times {
		var lines, plain []string
		for _, rule := range some(r, r.Intn(51)) {
			for r.Intn(3) == 0 {
				lines = append(lines, ignoredLines[r.Intn(len(ignoredLines))])
			}
			lines = append(lines, wantLine(rule))
			plain = append(plain, wantLine(rule)+"\n")
		}
		for r.Intn(2) == 0 {
			lines = append(lines, ignoredLines[r.Intn(len(ignoredLines))])
		}
		try(strings.Join(lines, "\n"), strings.Join(plain, ""))
	}
}

// TestParseWhatIsPrinted is the first half of P9.2.
func TestParseWhatIsPrinted(t *testing.T) {
	r := rand.New(rand.NewSource(11))
	for n := range 51 {
		for range 20 {
			l := some(r, n)
			s, e := rulelang.Print(l)
			if e != api.OK {
				t.Fatalf("Print of %d rules: %d", n, e)
			}
			checkRules(t, s, l)
		}
	}
}

// TestPrintWhatIsParsed is the second half of P9.2.
func TestPrintWhatIsParsed(t *testing.T) {
	texts(12, 1000, func(text string, plain string) {
		for _, s := range []string{text, text + "\n", "\n" + text} {
			l, _, e := rulelang.Parse(s)
			if e != api.OK {
				t.Errorf("Parse(%s): %d", show(s), e)
			}
			checkPrint(t, l, plain)
		}
	})
}

// TestLinesDiffer is P9.3: all samples, which are different, have different lines, and none of these is ignored.
func TestLinesDiffer(t *testing.T) {
	seen := map[string]api.Rule{}
	for _, r := range samples() {
		s, _ := rulelang.Print([]api.Rule{r})
		if other, ok := seen[s]; ok {
			t.Errorf("%+v and %+v have the same line", r, other)
		}
		seen[s] = r
		if !strings.HasSuffix(s, "\n") || strings.Count(s, "\n") != 1 || s == "\n" || s[0] == '#' {
			t.Errorf("the line of %+v is %s", r, show(s))
		}
	}
}

// TestFieldsTellLinesApart compares the lines of rules that differ in one field.
func TestFieldsTellLinesApart(t *testing.T) {
	for _, r := range samples() {
		s, _ := rulelang.Print([]api.Rule{r})
		for _, other := range []api.Rule{
			{Action: r.Action ^ 3, Subject: r.Subject, Measure: r.Measure, N: r.N},
			{Action: r.Action, Subject: r.Subject%3 + 1, Measure: r.Measure, N: r.N},
			{Action: r.Action, Subject: r.Subject, Measure: r.Measure%4 + 1, N: r.N},
			{Action: r.Action, Subject: r.Subject, Measure: r.Measure, N: r.N + 1},
			{Action: r.Action, Subject: r.Subject, Measure: r.Measure, N: r.N * 10},
		} {
			if line, e := rulelang.Print([]api.Rule{other}); other != r && e == api.OK && line == s {
				t.Errorf("%+v and %+v have the same line", r, other)
			}
		}
	}
}

// withLines returns s with a line put in before its line i, counted from 0.
func withLines(s string, i int, more ...string) string {
	return strings.Join(slices.Insert(strings.Split(s, "\n"), i, more...), "\n")
}

// TestIgnoredLines is the first half of P9.4: an ignored line at any place of a text changes only the numbers of the lines behind it.
func TestIgnoredLines(t *testing.T) {
	r := rand.New(rand.NewSource(13))
	texts(14, 60, func(text string, plain string) {
		wrong := withLines(text, r.Intn(strings.Count(text, "\n")+1), "allow account 0")
		for _, s := range []string{text, wrong} {
			rules, number, e := rulelang.Parse(s)
			for i := range strings.Count(s, "\n") + 2 {
				more := withLines(s, i, ignoredLines[r.Intn(len(ignoredLines))])
				moved := number
				if number > i {
					moved++
				}
				if e == api.OK {
					checkRules(t, more, rules)
				} else {
					checkWrong(t, more, moved)
				}
			}
		}
	})
}

// TestTwoTexts is the second half of P9.4: the rules of two texts, one after the other.
func TestTwoTexts(t *testing.T) {
	r := rand.New(rand.NewSource(15))
	var all []string
	texts(16, 100, func(text string, plain string) { all = append(all, text, plain, text+"\n") })
	for range 3000 {
		a, b := all[r.Intn(len(all))], all[r.Intn(len(all))]
		first, _, _ := rulelang.Parse(a)
		second, _, _ := rulelang.Parse(b)
		both := a + "\n" + b
		if rules := slices.Concat(first, second); len(both) > 65536 {
			checkWrong(t, both, 0)
		} else if len(rules) <= 50 {
			checkRules(t, both, rules)
		} else {
			checkParse(t, both)
			if _, _, e := rulelang.Parse(both); e != api.ErrRules {
				t.Errorf("Parse of %d rules: %d", len(rules), e)
			}
		}
	}
}

// TestTwoTextsAtTheBound puts two texts together whose rules are 50 or 51, or whose bytes are 65536 or 65537.
func TestTwoTextsAtTheBound(t *testing.T) {
	for n := range 51 {
		a, b := samples()[:n], samples()[n:50]
		checkRules(t, wantText(a)+"\n"+wantText(b), slices.Concat(a, b))
		checkWrong(t, wantText(a)+"\n"+wantText(samples()[n:51]), 52)
	}
	rule := examples[0]
	remark := func(size int) string { return "#" + strings.Repeat("x", size-1) }
	checkRules(t, rule.line+"\n"+remark(65536-len(rule.line)-1), []api.Rule{rule.rule})
	checkWrong(t, rule.line+"\n"+remark(65536-len(rule.line)), 0)
	checkRules(t, remark(65536-len(rule.line)-1)+"\n"+rule.line, []api.Rule{rule.rule})
	checkWrong(t, remark(65536-len(rule.line))+"\n"+rule.line, 0)
}
