package amount

import (
	"cmp"
	"math/bits"
	"slices"

	"royalty/api"
)

// remainder is what rounding down has left of a quota: total * weight modulo the sum of all weights.
type remainder struct {
	index int
	size  uint64
}

// compare orders remainders as they are served: the largest ones first, and equal ones by their indices.
func (r remainder) compare(other remainder) int {
	return cmp.Or(cmp.Compare(other.size, r.size), cmp.Compare(r.index, other.index))
}

// Apportion divides total in proportion to the weights by the method of largest remainders. It returns false unless total is an amount, no weight is negative, and the sum of the weights is from 1 to MaxAmount.
func Apportion(total int, weights []int) ([]int, bool) {
	whole, ok := Sum(weights)
	if !ok || whole < 1 || !all(upTo(api.MaxAmount), total, whole) {
		return nil, false
	}
	parts := make([]int, len(weights))
	remainders := make([]remainder, len(weights))
	left := total
	for i, weight := range weights {
		quota, size := divide(total, weight, whole)
		parts[i] = quota
		remainders[i] = remainder{i, size}
		left -= quota
	}
	slices.SortFunc(remainders, remainder.compare)
	// The remainders add up to left * whole, and each is less than whole, so at least left of them are not 0: a part is never more than its quota rounded up.
	for _, r := range remainders[:left] {
		parts[r.index]++
	}
	return parts, true
}

// divide returns total * weight / whole, rounded down, and what remains of the product. Since weight is at most whole, the quotient is at most total.
func divide(total int, weight int, whole int) (int, uint64) {
	high, low := bits.Mul64(uint64(total), uint64(weight))
	quotient, rest := bits.Div64(high, low, uint64(whole))
	return int(quotient), rest
}
