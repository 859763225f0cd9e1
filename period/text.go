package period

import "royalty/api"

// The numbers of bytes of a year, a month, and all of a string of the form YYYY-MM.
const (
	yearSize  = 4
	monthSize = 2
	textSize  = yearSize + 1 + monthSize
)

// Format returns a period as a string of the form YYYY-MM, or ErrPeriod if p is not a period.
func Format(p int) (string, api.Errno) {
	if !valid(p) {
		return "", api.ErrPeriod
	}
	year, month := firstYear+p/yearMonths, p%yearMonths+1
	return digits(year, yearSize) + "-" + digits(month, monthSize), api.OK
}

// Parse returns the period for which Format returns s, or ErrPeriod if there is none.
func Parse(s string) (int, api.Errno) {
	if len(s) != textSize {
		return 0, api.ErrPeriod
	}
	year, month := number(s[:yearSize]), number(s[textSize-monthSize:])
	p := (year-firstYear)*yearMonths + month - 1
	// If s is no period, p may be one by chance: 2000-13 yields January 2001. What Format writes decides.
	if text, e := Format(p); e != api.OK || text != s {
		return 0, api.ErrPeriod
	}
	return p, api.OK
}

// digits returns the last size decimal digits of n, which is not negative.
func digits(n int, size int) string {
	code := make([]byte, size)
	for i := range size {
		code[size-1-i] = byte('0' + n%10)
		n /= 10
	}
	return string(code)
}

// number returns the number that s writes in decimal digits, or any number if other bytes are in s.
func number(s string) int {
	n := 0
	for i := range len(s) {
		n = 10*n + int(s[i]) - '0'
	}
	return n
}
