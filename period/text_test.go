package period_test

import (
	"math/rand"
	"strconv"
	"strings"
	"testing"

	"royalty/api"
	"royalty/period"
)

// wantText is the text of a period, written digit by digit.
func wantText(p int) string {
	year, month := strconv.Itoa(2000+p/12), strconv.Itoa(p%12+1)
	return year + "-" + strings.Repeat("0", 2-len(month)) + month
}

// allTexts are the texts of all periods, with the periods.
func allTexts() map[string]int {
	m := map[string]int{}
	for p := range api.MaxPeriods {
		m[wantText(p)] = p
	}
	return m
}

func checkFormat(t *testing.T, p int, want string) {
	t.Helper()
	if got, e := period.Format(p); got != want || e != api.OK {
		t.Fatalf("Format(%d) = %q, %d; want %q, 0", p, got, e, want)
	}
}

func checkFormatRefuses(t *testing.T, p int) {
	t.Helper()
	if s, e := period.Format(p); s != "" || e != api.ErrPeriod {
		t.Fatalf("Format(%d) = %q, %d; want an empty string and ErrPeriod", p, s, e)
	}
}

func checkParse(t *testing.T, s string, want int) {
	t.Helper()
	if got, e := period.Parse(s); got != want || e != api.OK {
		t.Fatalf("Parse(%q) = %d, %d; want %d, 0", s, got, e, want)
	}
}

func checkParseRefuses(t *testing.T, s string) {
	t.Helper()
	if p, e := period.Parse(s); p != 0 || e != api.ErrPeriod {
		t.Fatalf("Parse(%q) = %d, %d; want 0 and ErrPeriod", s, p, e)
	}
}

func TestTextExamples(t *testing.T) {
	checkFormat(t, 306, "2025-07")
	checkParse(t, "2025-07", 306)
	checkParseRefuses(t, "2025-7")
	checkParseRefuses(t, "1999-12")
}

func TestTextsAtLimits(t *testing.T) {
	for _, c := range []struct {
		p int
		s string
	}{
		{0, "2000-01"}, {8, "2000-09"}, {9, "2000-10"}, {11, "2000-12"}, {12, "2001-01"},
		{119, "2009-12"}, {120, "2010-01"}, {1188, "2099-01"}, {1199, "2099-12"},
	} {
		checkFormat(t, c.p, c.s)
		checkParse(t, c.s, c.p)
	}
	checkFormatRefuses(t, -1)
	checkFormatRefuses(t, api.MaxPeriods)
}

func TestEveryPeriodThroughFormatAndParse(t *testing.T) {
	last := ""
	for p := range api.MaxPeriods {
		s, e := period.Format(p)
		if e != api.OK || s <= last {
			t.Fatalf("Format(%d) = %q, %d after %q", p, s, e, last)
		}
		checkFormat(t, p, wantText(p))
		checkParse(t, s, p)
		last = s
	}
}

func TestParseRefusesOtherForms(t *testing.T) {
	for _, s := range []string{
		"", "-", "0", "2", "2000", "2000-", "-01", "200001", "2000-1", "2000-001", "20000-1", "02000-01", "00-01", "2000-01-01",
		"2000-00", "2000-13", "2000-19", "2000-20", "2000-99", "2099-13", "2099-99",
		"1999-12", "1999-13", "1999-99", "1998-25", "2100-01", "2100-00", "0000-01", "0001-01", "9999-12", "1000-01",
		" 2000-01", "2000-01 ", "2000 -01", "2000- 1", " 000-01", "2000-1 ", "\t2000-01", "2000-01\n", "2000-01\x00", "\x002000-01",
		"+2000-01", "-2000-01", "+200-01", "-200-01", "2000-+1", "2000--1", "2000-01-", "--2000-01",
		"2000/01", "2000.01", "2000_01", "2000:01", "2000 01", "2000001", "2000\x0001", "2000\xe2\x80\x9001", "2000\xe2\x88\x9201",
		"01-2000", "1-2000", "2000-Jan", "2000-I", "0x7d0-1", "2e3-001", "2_00-01", "YYYY-MM", "abcd-ef", "2O00-01", "2000-O1", "2000-l2",
		"2000-0:", "2000-0;", "2000-/:", "199:-12", "1999-0=", "200/-25", "20/:-01", "2000-0/", "2000-1/",
		"\xef\xbc\x92000-01", "2000-\xd9\xa0\xd9\xa1", "2000-\xb01", "\xb2000-01", "\"2000-01\"", "2000-012000-01", "2000-01,2000-02",
		strings.Repeat("0", 7), strings.Repeat("9", 7), strings.Repeat("-", 7), strings.Repeat("\xff", 7), strings.Repeat("\x00", 7),
		strings.Repeat("0", 100000) + "2000-01", "2000-01" + strings.Repeat(" ", 100000), strings.Repeat("2", 1<<20),
	} {
		checkParseRefuses(t, s)
	}
}

func TestParseAcceptsOnlyTexts(t *testing.T) {
	texts := allTexts()
	check := func(s string) {
		t.Helper()
		if p, ok := texts[s]; ok {
			checkParse(t, s, p)
		} else {
			checkParseRefuses(t, s)
		}
	}
	for s := range texts {
		for i := range len(s) {
			check(s[:i])
			check(s[i:])
			check(s[:i] + s[i+1:])
			check(s[:i] + s[i:i+1] + s[i:])
			for b := range 256 {
				check(s[:i] + string([]byte{byte(b)}) + s[i+1:])
			}
		}
		check(s + "0")
		check(s + "\x00")
	}
	for year := range 10000 {
		for month := range 100 {
			check(strconv.Itoa(10000 + year)[1:] + "-" + strconv.Itoa(100 + month)[1:])
		}
	}
}

func TestParseOfRandomTexts(t *testing.T) {
	texts := allTexts()
	random := rand.New(rand.NewSource(7))
	const bytes = "001122345678999---/:+ \x00\xb0"
	for range 200000 {
		code := make([]byte, 7)
		for i := range code {
			code[i] = bytes[random.Intn(len(bytes))]
		}
		s := string(code)
		if p, ok := texts[s]; ok {
			checkParse(t, s, p)
		} else {
			checkParseRefuses(t, s)
		}
	}
}
