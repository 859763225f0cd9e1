package rulelang_test

import (
	"fmt"
	"math/rand"
	"strings"
	"testing"

	"royalty/api"
	"royalty/rulelang"
)

// roots are lines of all lengths and sorts, from which wrong lines are made.
var roots = []string{
	"hold if account streams > 500", "void if cluster devices > 20", "allow account 7", "hold if device accounts > 0",
	"void if account recordings > 1000000", "allow account 1000000", "hold if cluster accounts > 19", "void if device streams > 9",
}

// vocabulary has all words of the language, and words that only look like them.
var vocabulary = []string{
	"hold", "void", "allow", "if", "account", "device", "cluster", "streams", "accounts", "devices", "recordings", ">", "0", "1", "7", "500", "1000000", "1000001",
	"", "Hold", "VOID", "ALLOW", "If", "Account", "clusters", "stream", "recording", "<", ">=", "=", "05", "00", "+5", "-1", "-0", "5.0", "1e3", "0x5", "1_000", "#", "x", "2000000", "99999999999999999999",
}

func TestWordsMissing(t *testing.T) {
	for _, line := range roots {
		words := strings.Split(line, " ")
		for i := range words {
			for j := i + 1; j <= len(words); j++ {
				rest := append(append([]string{}, words[:i]...), words[j:]...)
				if len(rest) > 0 {
					checkWrong(t, strings.Join(rest, " "), 1)
				}
				checkWrong(t, "\n"+strings.Join(rest, " ")+" ", 2)
			}
		}
	}
}

func TestWordsAdded(t *testing.T) {
	for _, line := range roots {
		words := strings.Split(line, " ")
		for i := range len(words) + 1 {
			for _, w := range vocabulary {
				more := append(append(append([]string{}, words[:i]...), w), words[i:]...)
				checkParse(t, strings.Join(more, " "))
				if w != "#" || i > 0 {
					checkWrong(t, strings.Join(more, " "), 1)
				}
			}
		}
	}
}

// TestWordsChanged puts every word at the place of every other one. Some of the lines are those of other rules.
func TestWordsChanged(t *testing.T) {
	for _, line := range roots {
		for i := range strings.Split(line, " ") {
			for _, w := range vocabulary {
				words := strings.Split(line, " ")
				words[i] = w
				checkParse(t, strings.Join(words, " "))
			}
		}
	}
}

// TestWordsInOtherOrder exchanges words, and reverses them.
func TestWordsInOtherOrder(t *testing.T) {
	for _, line := range roots {
		n := len(strings.Split(line, " "))
		for i := range n {
			for j := range i {
				words := strings.Split(line, " ")
				words[i], words[j] = words[j], words[i]
				checkWrong(t, strings.Join(words, " "), 1)
			}
		}
	}
	for _, line := range []string{"streams account if hold > 500", "500 > streams account if hold", "account allow 7", "7 account allow", "if account streams > 500 hold", "allow 7 account", "hold if streams account > 5"} {
		checkWrong(t, line, 1)
	}
}

// TestWordsOfEverySort tries all judgements of four words and a number, and all exemptions.
func TestWordsOfEverySort(t *testing.T) {
	for _, action := range vocabulary {
		for _, subject := range vocabulary {
			checkParse(t, fmt.Sprintf("%s %s 7", action, subject))
			for _, measure := range vocabulary {
				checkParse(t, fmt.Sprintf("%s if %s %s > 7", action, subject, measure))
			}
		}
	}
}

// TestWordsOfOtherCase writes each letter of a line in the other case.
func TestWordsOfOtherCase(t *testing.T) {
	for _, line := range roots {
		checkWrong(t, strings.ToUpper(line), 1)
		checkWrong(t, strings.ToUpper(line[:1])+line[1:], 1)
		for i, c := range []byte(line) {
			if c >= 'a' && c <= 'z' {
				checkWrong(t, line[:i]+string(rune(c-32))+line[i+1:], 1)
			}
		}
	}
}

// TestOtherSpaces puts other bytes than one space between the words, before them and behind them.
func TestOtherSpaces(t *testing.T) {
	spaces := []string{"  ", "   ", "\t", " \t", "\t ", "\r", "\v", "\f", "\x00", "\u00a0", "\u2003", "\u3000", ",", "_", "-", ".", "\xc2", "\xff", "\x1f", "!", "@", "\\n"}
	for _, line := range roots {
		for i := range line {
			if line[i] == ' ' {
				checkWrong(t, line[:i]+line[i+1:], 1)
				for _, space := range spaces {
					checkWrong(t, line[:i]+space+line[i+1:], 1)
				}
			}
		}
		for _, space := range append(spaces, " ") {
			checkWrong(t, space+line, 1)
			checkWrong(t, line+space, 1)
			checkWrong(t, space+line+space, 1)
			checkWrong(t, line+space+"\n", 1)
			checkWrong(t, "#\n"+space+line, 2)
		}
		checkWrong(t, line+"\r\n"+line+"\r\n", 1)
		checkWrong(t, line+"\n"+line+"\r", 2)
	}
}

// TestEveryByte changes, inserts and removes single bytes of lines, and compares with the definition.
func TestEveryByte(t *testing.T) {
	for _, line := range roots {
		for i := range len(line) + 1 {
			for b := range 256 {
				c := string([]byte{byte(b)})
				checkParse(t, line[:i]+c+line[i:])
				if i < len(line) {
					checkParse(t, line[:i]+c+line[i+1:])
				}
			}
			if i < len(line) {
				checkParse(t, line[:i]+line[i+1:])
			}
			checkParse(t, line[:i])
			checkParse(t, line[i:])
			checkParse(t, line[:i]+"\n"+line[i:])
		}
	}
}

// TestNumbersRefused writes N in ways in which no number is written, and beyond its bounds.
func TestNumbersRefused(t *testing.T) {
	numbers := []string{
		"", "-1", "-0", "+0", "+1", "+5", "--5", "-500", "00", "01", "05", "007", "000000", "0000005", "00000000000000000000000005",
		"1000001", "1000002", "9999999", "10000000", "2147483648", "4294967297", "4294967301", "9223372036854775807", "9223372036854775808", "18446744073709551615",
		"18446744073709551616", "18446744073709551621", "340282366920938463463374607431768211461", "-9223372036854775808", "-18446744073709551611",
		"5.", "5.0", ".5", "1e3", "5e0", "0x5", "0b1", "0o7", "1_0", "5_", "5,", "1,000", "1'000", "5 ", " 5", "5\t", "5\x00", "5#", "5 # five", "five", "V", "x", "a", "NaN", "Inf",
		"\u0665", "\u0967", "\uff15", "\u00b2", "\u2084", "5\u0301", "\xff", "\xd9", strings.Repeat("0", 100) + "5", strings.Repeat("5", 1000), "1" + strings.Repeat("0", 1000), strings.Repeat("9", 60000), "\r", "5\r",
	}
	for _, n := range numbers {
		checkWrong(t, "hold if account streams > "+n, 1)
		checkWrong(t, "allow account "+n, 1)
		checkWrong(t, "allow account 7\nvoid if cluster recordings > "+n+"\n", 2)
	}
	checkWrong(t, "allow account 0", 1)
	checkRules(t, "hold if account streams > 0", []api.Rule{judgement(1, 1, 1, 0)})
}

// TestEveryNumber prints and parses all numbers of a judgement and of an exemption.
func TestEveryNumber(t *testing.T) {
	for least := 0; least <= 1000000; least += 25 {
		var l []api.Rule
		for n := least; n < least+25 && n <= 1000000; n++ {
			l = append(l, judgement(2, 2, 3, n))
			if n > 0 {
				l = append(l, exemption(n))
			}
		}
		s, e := rulelang.Print(l)
		if s != wantText(l) || e != api.OK {
			t.Fatalf("Print of the numbers from %d on = %s, %d", least, show(s), e)
		}
		checkRules(t, s, l)
	}
}

// changed returns a line with some change, or none.
func changed(r *rand.Rand, line string) string {
	i := r.Intn(len(line) + 1)
	switch r.Intn(6) {
	case 0:
		return line[:i]
	case 1:
		return line[i:]
	case 2:
		return line[:i] + string([]byte{byte(r.Intn(256))}) + line[i:]
	case 3:
		return line[:i] + vocabulary[r.Intn(len(vocabulary))] + line[i:]
	case 4:
		words := strings.Split(line, " ")
		words[r.Intn(len(words))] = vocabulary[r.Intn(len(vocabulary))]
		return strings.Join(words, " ")
	}
	words := strings.Split(line, " ")
	r.Shuffle(len(words), func(i, j int) { words[i], words[j] = words[j], words[i] })
	return strings.Join(words, " ")
}
