package rulelang_test

import (
	"fmt"
	"math"
	"math/rand"
	"regexp"
	"slices"
	"strconv"
	"strings"
	"testing"

	"royalty/api"
	"royalty/rulelang"
)

// The words of the chapter, at the numbers that they stand for.
var (
	actionWords  = map[int]string{1: "hold", 2: "void"}
	subjectWords = map[int]string{1: "account", 2: "device", 3: "cluster"}
	measureWords = map[int]string{1: "streams", 2: "accounts", 3: "devices", 4: "recordings"}
)

// The lines of valid rules, as expressions.
var (
	judgementLine = regexp.MustCompile(`\A(hold|void) if (account|device|cluster) (streams|accounts|devices|recordings) > (0|[1-9][0-9]{0,5}|1000000)\z`)
	exemptionLine = regexp.MustCompile(`\Aallow account ([1-9][0-9]{0,5}|1000000)\z`)
)

// extremes are numbers around all bounds of the chapter, and those of 64, 32, 16 and 8 bits.
var extremes = []int{
	math.MinInt, math.MinInt + 1, -math.MaxInt32, -1000000, -256, -5, -4, -3, -2, -1, 0, 1, 2, 3, 4, 5, 6, 7, 9, 10, 20, 99, 100, 255, 256, 257,
	500, 65535, 65536, 999999, 1000000, 1000001, 1000002, 9999999, math.MaxInt32, math.MaxInt32 + 2, 1<<32 + 1, 1<<62 - 1, 1 << 62, math.MaxInt - 1, math.MaxInt,
}

// sizes are valid numbers of judgements; those from the second one on are valid in exemptions, too.
var sizes = []int{0, 1, 2, 3, 5, 7, 9, 10, 11, 19, 20, 99, 100, 101, 255, 256, 500, 999, 1000, 9999, 10000, 65536, 99999, 100000, 999998, 999999, 1000000}

func judgement(action int, subject int, measure int, n int) api.Rule {
	return api.Rule{Action: action, Subject: subject, Measure: measure, N: n}
}

func exemption(n int) api.Rule {
	return api.Rule{Action: 3, Subject: 1, N: n}
}

// samples returns rules of every sort with every size, all of them valid and different.
func samples() []api.Rule {
	var l []api.Rule
	for _, n := range sizes {
		for action := 1; action <= 2; action++ {
			for subject := 1; subject <= 3; subject++ {
				for measure := 1; measure <= 4; measure++ {
					l = append(l, judgement(action, subject, measure, n))
				}
			}
		}
		if n > 0 {
			l = append(l, exemption(n))
		}
	}
	return l
}

// invalid returns rules that are not valid, for many reasons.
func invalid() []api.Rule {
	l := []api.Rule{{}, {Action: 3}, {Subject: 1}, {Measure: 1}, {N: 1}}
	for _, n := range []int{math.MinInt, -1000000, -1, 1000001, math.MaxInt} {
		l = append(l, judgement(1, 1, 1, n), judgement(2, 3, 4, n), exemption(n))
	}
	for _, n := range []int{math.MinInt, -1, 0, 4, 5, math.MaxInt} {
		l = append(l, judgement(n, 1, 1, 5), judgement(1, n, 1, 5))
	}
	for _, n := range []int{math.MinInt, -1, 0, 5, 6, math.MaxInt} {
		l = append(l, judgement(1, 1, n, 5))
	}
	return append(l, exemption(0), judgement(3, 1, 1, 7), judgement(3, 2, 0, 7), judgement(3, 3, 0, 7), judgement(3, 0, 0, 7), judgement(1, 1, 0, 7), judgement(2, 1, 0, 7))
}

// wantValid is the chapter's definition.
func wantValid(r api.Rule) bool {
	switch r.Action {
	case 1, 2:
		return r.Subject >= 1 && r.Subject <= 3 && r.Measure >= 1 && r.Measure <= 4 && r.N >= 0 && r.N <= 1000000
	case 3:
		return r.Subject == 1 && r.Measure == 0 && r.N >= 1 && r.N <= 1000000
	}
	return false
}

// wantLine is the line of r, which is valid.
func wantLine(r api.Rule) string {
	if r.Action == 3 {
		return fmt.Sprintf("allow account %d", r.N)
	}
	return fmt.Sprintf("%s if %s %s > %d", actionWords[r.Action], subjectWords[r.Subject], measureWords[r.Measure], r.N)
}

// wantText is what Print returns for l, whose rules are valid.
func wantText(l []api.Rule) string {
	s := ""
	for _, r := range l {
		s += wantLine(r) + "\n"
	}
	return s
}

// wantRule returns the rule of a line, or false if there is none.
func wantRule(line string) (api.Rule, bool) {
	if m := judgementLine.FindStringSubmatch(line); m != nil {
		return judgement(key(actionWords, m[1]), key(subjectWords, m[2]), key(measureWords, m[3]), atoi(m[4])), true
	}
	if m := exemptionLine.FindStringSubmatch(line); m != nil {
		return exemption(atoi(m[1])), true
	}
	return api.Rule{}, false
}

func key(words map[int]string, word string) int {
	for n, w := range words {
		if w == word {
			return n
		}
	}
	return 0
}

func atoi(s string) int {
	n, _ := strconv.Atoi(s)
	return n
}

// skipped reports whether a line is ignored.
func skipped(line string) bool {
	return line == "" || strings.HasPrefix(line, "#")
}

// wantParse is the chapter's definition of Parse.
func wantParse(s string) ([]api.Rule, int, api.Errno) {
	if len(s) > 65536 {
		return nil, 0, 90
	}
	var l []api.Rule
	for i, line := range strings.Split(s, "\n") {
		if skipped(line) {
			continue
		}
		r, ok := wantRule(line)
		if !ok || len(l) == 50 {
			return nil, i + 1, 90
		}
		l = append(l, r)
	}
	return l, 0, 0
}

// show is s as it can be printed: not too long, and without bytes that are no text.
func show(s string) string {
	if len(s) > 120 {
		return fmt.Sprintf("%q… of %d bytes", s[:120], len(s))
	}
	return strconv.QuoteToASCII(s)
}

func checkRules(t *testing.T, s string, want []api.Rule) {
	t.Helper()
	if got, line, e := rulelang.Parse(s); !slices.Equal(got, want) || line != 0 || e != api.OK {
		t.Errorf("Parse(%s) = %d rules, %d, %d; want %d rules, 0, 0", show(s), len(got), line, e, len(want))
	}
}

func checkWrong(t *testing.T, s string, want int) {
	t.Helper()
	if got, line, e := rulelang.Parse(s); len(got) > 0 || line != want || e != api.ErrRules {
		t.Errorf("Parse(%s) = %d rules, %d, %d; want no rules, %d, ErrRules", show(s), len(got), line, e, want)
	}
}

// checkParse compares Parse with its definition.
func checkParse(t *testing.T, s string) {
	t.Helper()
	if want, line, e := wantParse(s); e == api.OK {
		checkRules(t, s, want)
	} else {
		checkWrong(t, s, line)
	}
}

func checkPrint(t *testing.T, l []api.Rule, want string) {
	t.Helper()
	if got, e := rulelang.Print(l); got != want || e != api.OK {
		t.Errorf("Print(%.10v) = %s, %d; want %s, 0", l, show(got), e, show(want))
	}
}

func checkPrintRefuses(t *testing.T, l []api.Rule) {
	t.Helper()
	if got, e := rulelang.Print(l); got != "" || e != api.ErrRules {
		t.Errorf("Print(%.10v) of %d rules = %s, %d; want an empty string, ErrRules", l, len(l), show(got), e)
	}
}

// some returns n of the samples, chosen by r.
func some(r *rand.Rand, n int) []api.Rule {
	all := samples()
	l := make([]api.Rule, n)
	for i := range l {
		l[i] = all[r.Intn(len(all))]
	}
	return l
}
