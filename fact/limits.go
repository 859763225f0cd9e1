package fact

import "royalty/api"

// span is a range of numbers. The zero span is that of a field that a kind does not use: it holds 0 only.
type span struct {
	least int
	most  int
}

func (s span) holds(n int) bool {
	return n >= s.least && n <= s.most
}

// limits returns the ranges of the measures that a kind uses, by their places, or nil if there is no such kind. It has no more than eight, since a greater map takes twice the time.
func limits(kind int) map[int]span {
	id := span{1, api.MaxID}
	period := span{0, api.MaxPeriods - 1}
	territory := span{0, api.MaxTerritories - 1}
	currency := span{0, api.MaxCurrencies}
	text := span{0, api.MaxText}
	switch kind {
	case api.FPlay:
		return map[int]span{
			idAt: id, accountAt: id, deviceAt: id, recordingAt: id, territoryAt: territory,
			secondAt: {0, api.MaxSeconds - 1}, amountAt: {0, api.MaxListened}, markAt: {0, api.Preview},
		}
	case api.FMark:
		return map[int]span{idAt: id, deviceAt: id, markAt: {api.Valid, api.Void}}
	case api.FClaim:
		return map[int]span{
			idAt: id, recordingAt: id, holderAt: id, roleAt: {api.Master, api.Publishing},
			territoryAt: {1, 1<<api.MaxTerritories - 1}, fromAt: period, toAt: {1, api.MaxPeriods}, shareAt: {0, api.Whole},
		}
	case api.FContract:
		return map[int]span{holderAt: id, fromAt: period, textAt: text}
	case api.FRevenue:
		return map[int]span{idAt: id, periodAt: period, territoryAt: territory, amountAt: {0, api.MaxRevenue}, currencyAt: currency}
	case api.FSubscription:
		return map[int]span{accountAt: id, periodAt: period, territoryAt: territory, amountAt: {0, api.MaxFee}, currencyAt: currency}
	case api.FRate:
		return map[int]span{currencyAt: {1, api.MaxCurrencies}, periodAt: period, amountAt: {1, api.MaxRate}}
	case api.FAdvance:
		return map[int]span{idAt: id, accountAt: {1, api.MaxAdvances}, periodAt: period, amountAt: {0, api.MaxAdvance}}
	case api.FRules:
		return map[int]span{fromAt: period, textAt: text}
	case api.FMethod:
		return map[int]span{territoryAt: territory, fromAt: period, markAt: {api.ProRata, api.UserCentric}}
	}
	return nil
}
