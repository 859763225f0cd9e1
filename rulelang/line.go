package rulelang

import (
	"errors"
	"iter"
	"slices"
	"strconv"
	"strings"

	"royalty/api"
)

// errLine is what the functions that read a line panic with where it is not the line of a valid rule.
var errLine = errors.New("rulelang: not the line of a valid rule")

// actions returns the words for the actions of judgements.
func actions() []string {
	return []string{api.RHold: "hold", api.RVoid: "void"}
}

// subjects returns the words for the subjects of judgements.
func subjects() []string {
	return []string{api.SAccount: "account", api.SDevice: "device", api.SCluster: "cluster"}
}

// measures returns the words for the measures of judgements.
func measures() []string {
	return []string{api.MStreams: "streams", api.MAccounts: "accounts", api.MDevices: "devices", api.MRecordings: "recordings"}
}

// lineOf returns the line of r, which is valid.
func lineOf(r api.Rule) string {
	n := strconv.Itoa(r.N)
	if isExemption(r) {
		return "allow account " + n
	}
	return strings.Join([]string{actions()[r.Action], "if", subjects()[r.Subject], measures()[r.Measure], ">", n}, " ")
}

// lines visits the lines of s, with their numbers from 1 on. What follows the last newline is a line, too.
func lines(s string) iter.Seq2[int, string] {
	return func(yield func(int, string) bool) {
		rest, more := s, true
		for number := 1; more; number++ {
			var line string
			line, rest, more = strings.Cut(rest, "\n")
			if !yield(number, line) {
				return
			}
		}
	}
}

// ignored reports whether a line of a text says nothing.
func ignored(line string) bool {
	return line == "" || line[0] == '#'
}

// read returns the rule of a line, or ErrRules if it is not the line of a valid rule.
func read(line string) (r api.Rule, e api.Errno) {
	defer func() {
		if err, ok := recover().(error); ok && errors.Is(err, errLine) {
			r, e = api.Rule{}, api.ErrRules
		}
	}()
	return rule(strings.Split(line, " ")), api.OK
}

// rule returns the rule that words spell out, or panics if there is none.
func rule(words []string) api.Rule {
	var r api.Rule
	switch {
	case len(words) == 6 && words[1] == "if" && words[4] == ">":
		r.Action = place(actions(), words[0])
		r.Subject = place(subjects(), words[2])
		r.Measure = place(measures(), words[3])
		r.N = decimal(words[5])
	case len(words) == 3 && words[0] == "allow" && words[1] == "account":
		r.Action = api.RAllow
		r.Subject = api.SAccount
		r.N = decimal(words[2])
	}
	if !Valid(r) {
		panic(errLine)
	}
	return r
}

// place returns the place of word among words, or panics if it is none of them. The first place is that of no word.
func place(words []string, word string) int {
	i := slices.Index(words, word)
	if i < 1 {
		panic(errLine)
	}
	return i
}

// decimal returns the number that word is, or panics if that is not how it is written.
func decimal(word string) int {
	n, err := strconv.Atoi(word)
	// Atoi also reads signs and leading zeros, which no line has.
	if err != nil || strconv.Itoa(n) != word {
		panic(errLine)
	}
	return n
}
