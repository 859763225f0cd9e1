package fact

import "royalty/api"

// The places of a fact's numbers in its encoding, from 0 on, and of its text, which follows them.
const (
	kindAt = iota
	idAt
	versionAt
	periodAt
	secondAt
	accountAt
	deviceAt
	recordingAt
	territoryAt
	holderAt
	roleAt
	fromAt
	toAt
	amountAt
	shareAt
	currencyAt
	markAt
	textAt
)

// numbers returns where f keeps its numbers, in the order of their places.
func numbers(f *api.Fact) [textAt]*int {
	return [textAt]*int{
		kindAt:      &f.Kind,
		idAt:        &f.ID,
		versionAt:   &f.Version,
		periodAt:    &f.Period,
		secondAt:    &f.Second,
		accountAt:   &f.Account,
		deviceAt:    &f.Device,
		recordingAt: &f.Recording,
		territoryAt: &f.Territory,
		holderAt:    &f.Holder,
		roleAt:      &f.Role,
		fromAt:      &f.From,
		toAt:        &f.To,
		amountAt:    &f.Amount,
		shareAt:     &f.Share,
		currencyAt:  &f.Currency,
		markAt:      &f.Mark,
	}
}

// measures returns what the kinds differ in: the numbers of f, with 0 at the places of those that all kinds use, and the length of its text.
func measures(f api.Fact) [textAt + 1]int {
	l := [textAt + 1]int{textAt: len(f.Text)}
	for at, n := range numbers(&f) {
		l[at] = *n
	}
	l[kindAt], l[versionAt] = 0, 0
	return l
}
