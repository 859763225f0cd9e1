package rulelang_test

import (
	"math/rand"
	"slices"
	"strings"
	"testing"

	"royalty/api"
)

// fifty are 50 lines of valid rules, each with its newline.
func fifty() string {
	return wantText(samples()[3:53])
}

func TestParseExamples(t *testing.T) {
	for _, x := range examples {
		checkRules(t, x.line, []api.Rule{x.rule})
		checkRules(t, x.line+"\n", []api.Rule{x.rule})
	}
	for _, line := range []string{"allow account 0", "hold if account streams > 05", "hold if account streams >5", "allow device 7"} {
		checkWrong(t, line, 1)
		checkWrong(t, line+"\n", 1)
	}
}

func TestParseSamples(t *testing.T) {
	for _, r := range samples() {
		checkRules(t, wantLine(r), []api.Rule{r})
		checkRules(t, wantLine(r)+"\n", []api.Rule{r})
	}
}

// TestParseNothing parses texts all of whose lines are ignored.
func TestParseNothing(t *testing.T) {
	for _, s := range []string{"", "\n", "\n\n\n", "#", "#\n", "##", "# hold if account streams > 5", "#allow account 7\n", "\n#\n\n# x \xff\x00\r\n#"} {
		checkRules(t, s, nil)
	}
	checkRules(t, strings.Repeat("\n", 65536), nil)
	checkRules(t, strings.Repeat("#", 65536), nil)
	checkRules(t, strings.Repeat("#\n", 32768), nil)
}

// ignoredLines are lines that make no difference.
var ignoredLines = []string{"", "#", "# a remark", "#hold if account streams > 5", "#\x00\xff\r", "###", "# \t", "#" + strings.Repeat("x", 1000)}

// TestParseIgnores puts ignored lines at every place of a text, right or wrong: only the number of the wrong line changes.
func TestParseIgnores(t *testing.T) {
	l := samples()[20:26]
	var lines []string
	for _, r := range l {
		lines = append(lines, wantLine(r))
	}
	for _, line := range ignoredLines {
		for i := range len(lines) + 1 {
			for times := 1; times <= 3; times++ {
				s := strings.Join(slices.Insert(slices.Clone(lines), i, slices.Repeat([]string{line}, times)...), "\n")
				checkRules(t, s, l)
				checkRules(t, s+"\n", l)
				checkWrong(t, s+"\nallow", len(lines)+times+1)
			}
		}
	}
}

// TestParseNotIgnored parses lines that only look as if they were ignored.
func TestParseNotIgnored(t *testing.T) {
	for _, line := range []string{" ", "\t", "\r", "\x00", " #", "\t# x", "\xef\xbb\xbf#", "//", ";", "allow account 7 #", "allow account 7# x", "allow account #7", "\uff03"} {
		checkWrong(t, line, 1)
		checkWrong(t, "\n"+line+"\n", 2)
		checkWrong(t, "#\nallow account 7\n\n"+line, 4)
		checkWrong(t, line+"\nallow account 7\n", 1)
	}
}

// TestParseWrongAtEveryPlace puts a wrong line at every place of a text, with ignored lines between the others.
func TestParseWrongAtEveryPlace(t *testing.T) {
	for _, wrong := range []string{"allow account 0", "hold if account streams > 05", "hold if account streams >5", "allow device 7", " ", "x", "void if cluster devices > 1000001"} {
		for i := range 51 {
			var lines []string
			for j, r := range samples()[:51] {
				if j == i {
					lines = append(lines, wrong)
				} else {
					lines = append(lines, wantLine(r))
				}
			}
			checkWrong(t, strings.Join(lines, "\n"), i+1)
			checkWrong(t, strings.Join(lines, "\n\n#\n"), 3*i+1)
			checkWrong(t, "\n"+strings.Join(lines, "\n")+"\nallow\n", i+2)
		}
	}
}

// TestParseFirstWrongLine parses texts with two lines that are wrong.
func TestParseFirstWrongLine(t *testing.T) {
	checkWrong(t, "allow account 0\nx", 1)
	checkWrong(t, "allow account 1\nx\n#\nallow account 0\n", 2)
	checkWrong(t, "\n\nx\nx\n", 3)
}

func TestParseTooManyRules(t *testing.T) {
	s := fifty()
	rules := samples()[3:53]
	checkRules(t, s, rules)
	checkRules(t, strings.TrimSuffix(s, "\n"), rules)
	checkRules(t, s+"\n\n# nothing more\n", rules)
	checkWrong(t, s+"allow account 7", 51)
	checkWrong(t, s+"allow account 7\n", 51)
	checkWrong(t, s+"allow account 0\n", 51)
	checkWrong(t, s+"\n#\nallow account 7\n", 53)
	checkWrong(t, "\n\n"+s+"allow account 7\nallow account 8\n", 53)
	checkWrong(t, s+s, 51)
	checkWrong(t, strings.Repeat("allow account 7\n", 1000), 51)
}

// TestParseWrongAround51 parses texts with a wrong line before and behind the 51st rule.
func TestParseWrongAround51(t *testing.T) {
	s := fifty()
	checkWrong(t, "x\n"+s+"allow account 7\n", 1)
	checkWrong(t, s+"x\nallow account 7\n", 51)
	checkWrong(t, s+"#\nallow account 7\nx\n", 52)
	lines := strings.SplitAfter(s, "\n")
	for i := range 50 {
		checkWrong(t, strings.Join(lines[:i], "")+"x\n"+strings.Join(lines[i:], "")+"allow account 7\n", i+1)
	}
}

// TestParseLongText parses texts that are as long as they may be, and longer ones.
func TestParseLongText(t *testing.T) {
	rule := examples[0]
	for _, size := range []int{65535, 65536, 65537, 65538, 131072, 1 << 20} {
		remark := "#" + strings.Repeat("x", size-1)
		lines := strings.Repeat("\n", size-len(rule.line)) + rule.line
		wrong := "x" + strings.Repeat("\n", size-1)
		last := strings.Repeat("\n", size-1) + "x"
		if size <= 65536 {
			checkRules(t, remark, nil)
			checkRules(t, lines, []api.Rule{rule.rule})
			checkWrong(t, wrong, 1)
			checkWrong(t, last, size)
			checkWrong(t, strings.Repeat("x", size), 1)
			checkWrong(t, strings.Repeat(" ", size), 1)
			checkWrong(t, strings.Repeat("9", size), 1)
			checkWrong(t, "allow account "+strings.Repeat("9", size-14), 1)
			checkWrong(t, "allow account "+strings.Repeat("0", size-15)+"7", 1)
			checkWrong(t, "hold if account streams > 5"+strings.Repeat(" ", size-27), 1)
		} else {
			for _, s := range []string{remark, lines, wrong, last, strings.Repeat("\n", size)} {
				checkWrong(t, s, 0)
			}
		}
	}
}

// TestParseArbitrary parses texts of lines that are mostly right, and compares with the definition.
func TestParseArbitrary(t *testing.T) {
	r := rand.New(rand.NewSource(4))
	all := samples()
	for range 3000 {
		var lines []string
		for range r.Intn(70) {
			switch r.Intn(8) {
			case 0, 1:
				lines = append(lines, ignoredLines[r.Intn(len(ignoredLines))])
			default:
				lines = append(lines, wantLine(all[r.Intn(len(all))]))
			}
		}
		if len(lines) > 0 && r.Intn(2) == 0 {
			i := r.Intn(len(lines))
			lines[i] = changed(r, lines[i])
		}
		checkParse(t, strings.Join(lines, "\n"))
	}
}
