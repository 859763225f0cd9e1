package fact

import "royalty/api"

// thing is a fact as far as it tells what it is about. Each of its methods returns two numbers of a key.
type thing struct {
	api.Fact
}

func (t thing) ofDevice() (int, int)    { return t.Device, t.ID }
func (t thing) ofID() (int, int)        { return t.ID, 0 }
func (t thing) ofHolder() (int, int)    { return t.Holder, t.From }
func (t thing) ofAccount() (int, int)   { return t.Account, t.Period }
func (t thing) ofCurrency() (int, int)  { return t.Currency, t.Period }
func (t thing) ofFrom() (int, int)      { return t.From, 0 }
func (t thing) ofTerritory() (int, int) { return t.Territory, t.From }
func (t thing) ofNothing() (int, int)   { return 0, 0 }

// about returns the function that returns the two numbers of a key for facts of a kind.
func about(kind int) func(thing) (int, int) {
	switch kind {
	case api.FPlay, api.FMark:
		return thing.ofDevice
	case api.FClaim, api.FRevenue, api.FAdvance:
		return thing.ofID
	case api.FContract:
		return thing.ofHolder
	case api.FSubscription:
		return thing.ofAccount
	case api.FRate:
		return thing.ofCurrency
	case api.FRules:
		return thing.ofFrom
	case api.FMethod:
		return thing.ofTerritory
	}
	return thing.ofNothing
}
