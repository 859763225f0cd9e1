package amount_test

import (
	"math"
	"math/big"
	"math/rand"
	"slices"
	"testing"

	"royalty/amount"
	"royalty/api"
)

// wantMulDiv is a * b / c as the chapter defines it, by way of big integers.
func wantMulDiv(a, b, c int) (int, bool) {
	if a < 0 || b < 0 || c < 1 {
		return 0, false
	}
	n := new(big.Int).Mul(big.NewInt(int64(a)), big.NewInt(int64(b)))
	n.Quo(n, big.NewInt(int64(c)))
	if n.Cmp(big.NewInt(api.MaxInt)) > 0 {
		return 0, false
	}
	return int(n.Int64()), true
}

// wantSum is the sum of l as the chapter defines it, by way of big integers.
func wantSum(l []int) (int, bool) {
	sum := new(big.Int)
	for _, n := range l {
		if n < 0 {
			return 0, false
		}
		sum.Add(sum, big.NewInt(int64(n)))
	}
	if sum.Cmp(big.NewInt(api.MaxInt)) > 0 {
		return 0, false
	}
	return int(sum.Int64()), true
}

// someInts are integers, ascending: small ones, and those about the limits and about powers of 2, of both signs.
func someInts() []int {
	l := []int{math.MinInt, math.MinInt + 1, -api.MaxInt, -api.Whole, -2, -1, 0, 1, 2, 3, 7, 10, math.MaxInt}
	for _, n := range []int{api.Cent, api.Whole, 1 << 31, 1 << 32, api.MaxAmount, 1 << 52, 1 << 61, api.MaxInt, math.MaxInt - 1} {
		l = append(l, n-1, n, n+1)
	}
	slices.Sort(l)
	return slices.Compact(l)
}

// randomInt returns a number from 0 to the greatest one, of any size.
func randomInt(random *rand.Rand) int {
	return random.Int() >> random.Intn(63)
}

func checkMulDiv(t *testing.T, a, b, c, want int, wantOK bool) {
	t.Helper()
	if got, ok := amount.MulDiv(a, b, c); got != want || ok != wantOK {
		t.Errorf("MulDiv(%d, %d, %d) = %d, %v; want %d, %v", a, b, c, got, ok, want, wantOK)
	}
}

func TestMulDivExamples(t *testing.T) {
	checkMulDiv(t, 1000000000000000, 999999, 1000000, 999999000000000, true)
	checkMulDiv(t, 7, 3, 2, 10, true)
	checkMulDiv(t, 7, 3, 0, 0, false)
}

func TestMulDivIsTheDefinition(t *testing.T) {
	check := func(a, b, c int) {
		want, ok := wantMulDiv(a, b, c)
		checkMulDiv(t, a, b, c, want, ok)
	}
	for _, a := range someInts() {
		for _, b := range someInts() {
			for _, c := range someInts() {
				check(a, b, c)
			}
		}
	}
	random := rand.New(rand.NewSource(1))
	for range 100000 {
		a, b, c := randomInt(random), randomInt(random), randomInt(random)
		check(a, b, c)
		check(a, b, max(a, b))
	}
}

func TestMulDivRefusesArguments(t *testing.T) {
	for _, n := range []int{-1, -2, -api.MaxInt, math.MinInt + 1, math.MinInt} {
		checkMulDiv(t, n, 1, 1, 0, false)
		checkMulDiv(t, 1, n, 1, 0, false)
		checkMulDiv(t, 1, 1, n, 0, false)
		checkMulDiv(t, n, 0, 1, 0, false)
		checkMulDiv(t, 0, n, 1, 0, false)
		checkMulDiv(t, n, n, 1, 0, false)
		checkMulDiv(t, n, 1, n, 0, false)
		checkMulDiv(t, 0, 0, n, 0, false)
	}
	checkMulDiv(t, 0, 0, 0, 0, false)
}

func TestMulDivRefusesResultsBeyondMaxInt(t *testing.T) {
	const greatest = math.MaxInt // 2 * MaxInt + 1
	for _, c := range []struct {
		a, b, c int
		ok      bool
	}{
		{api.MaxInt, 1, 1, true},
		{api.MaxInt + 1, 1, 1, false},
		{greatest, 1, 2, true},
		{greatest, 1, 1, false},
		{greatest, api.MaxInt, greatest, true},
		{greatest, api.MaxInt + 1, greatest, false},
		{greatest, greatest, greatest, false},
		{api.MaxInt + 1, api.MaxInt + 1, api.MaxInt + 1, false},
		{1 << 32, 1 << 32, 1, false}, // the product has 65 bits: the lower 64 are 0
		{1 << 32, 1 << 32, 4, false},
		{1 << 32, 1 << 32, 5, true},
		{greatest, greatest, 1, false},
	} {
		want, ok := wantMulDiv(c.a, c.b, c.c)
		if ok != c.ok {
			t.Errorf("the case %v has the result %v", c, ok)
		}
		checkMulDiv(t, c.a, c.b, c.c, want, c.ok)
	}
}

func TestMulDivIsCommutative(t *testing.T) {
	random := rand.New(rand.NewSource(2))
	for range 50000 {
		a, b, c := randomInt(random), randomInt(random), randomInt(random)
		n, ok := amount.MulDiv(a, b, c)
		checkMulDiv(t, b, a, c, n, ok)
	}
}

func TestMulDivDoesNotDecrease(t *testing.T) {
	random := rand.New(rand.NewSource(3))
	for range 50000 {
		a, b, c := randomInt(random), randomInt(random), randomInt(random)
		n, ok := amount.MulDiv(a, b, c)
		if !ok {
			continue
		}
		moreA, moreB := a+min(randomInt(random), math.MaxInt-a), b+min(randomInt(random), math.MaxInt-b)
		for _, l := range [][3]int{{moreA, b, c}, {a, moreB, c}, {a, b, 1 + random.Intn(c)}, {moreA, moreB, 1 + random.Intn(c)}} {
			if more, ok := amount.MulDiv(l[0], l[1], l[2]); ok && more < n {
				t.Errorf("MulDiv(%d, %d, %d) = %d, but MulDiv of %v = %d", a, b, c, n, l, more)
			}
		}
	}
}

func TestMulDivUndoesMultiplication(t *testing.T) {
	random := rand.New(rand.NewSource(4))
	check := func(n, c int) {
		checkMulDiv(t, n, c, c, n, true)
		checkMulDiv(t, c, n, c, n, true)
	}
	for range 50000 {
		check(random.Intn(api.MaxInt+1)>>random.Intn(62), 1+random.Intn(math.MaxInt)>>random.Intn(63))
	}
	for _, n := range []int{0, 1, 2, api.MaxAmount, api.MaxInt - 1, api.MaxInt} {
		for _, c := range []int{1, 2, 3, api.Whole, api.MaxInt, api.MaxInt + 1, math.MaxInt - 1, math.MaxInt} {
			check(n, c)
		}
	}
}

func checkPercent(t *testing.T, total, share, want int) {
	t.Helper()
	if got := amount.Percent(total, share); got != want {
		t.Errorf("Percent(%d, %d) = %d, want %d", total, share, got, want)
	}
}

func TestPercentExamples(t *testing.T) {
	checkPercent(t, 999, 500000, 499)
	checkPercent(t, -1, 500000, 0)
}

// someAmounts and someShares are valid ones, with the limits.
func someAmounts(random *rand.Rand) []int {
	l := []int{0, 1, 2, 3, 999, api.Cent, api.Whole - 1, api.Whole, api.Whole + 1, 9223372036854, 9223372036855, api.MaxAmount - 1, api.MaxAmount}
	for range 200 {
		l = append(l, random.Intn(api.MaxAmount+1)>>random.Intn(50))
	}
	return l
}

func someShares(random *rand.Rand) []int {
	l := []int{0, 1, 2, 3, 499999, 500000, 500001, api.MasterPart, api.Whole - 1, api.Whole}
	for range 100 {
		l = append(l, random.Intn(api.Whole+1)>>random.Intn(20))
	}
	return l
}

func TestPercentIsTheDefinition(t *testing.T) {
	random := rand.New(rand.NewSource(5))
	for _, total := range someAmounts(random) {
		for _, share := range someShares(random) {
			want, _ := wantMulDiv(total, share, api.Whole)
			checkPercent(t, total, share, want)
		}
	}
}

func TestPercentOfWhatIsNoAmountOrShare(t *testing.T) {
	for _, n := range []int{-1, -api.Whole, math.MinInt, api.MaxAmount + 1, 2 * api.MaxAmount, api.MaxInt, math.MaxInt} {
		for _, share := range []int{0, 1, api.Whole} {
			checkPercent(t, n, share, 0)
		}
	}
	for _, n := range []int{-1, -api.Whole, math.MinInt, api.Whole + 1, 2 * api.Whole, api.MaxInt, math.MaxInt} {
		for _, total := range []int{0, 1, api.Whole, api.MaxAmount} {
			checkPercent(t, total, n, 0)
		}
		checkPercent(t, -1, n, 0)
	}
}

func TestPercentOfShareAndRest(t *testing.T) {
	random := rand.New(rand.NewSource(6))
	for _, total := range someAmounts(random) {
		for _, share := range someShares(random) {
			a, b := amount.Percent(total, share), amount.Percent(total, api.Whole-share)
			if a+b != total && a+b != total-1 {
				t.Errorf("Percent of %d and the shares %d and the rest are %d and %d", total, share, a, b)
			}
		}
		checkPercent(t, total, api.Whole, total)
		checkPercent(t, total, 0, 0)
	}
}

func TestPercentDoesNotDecrease(t *testing.T) {
	random := rand.New(rand.NewSource(7))
	totals, shares := someAmounts(random), someShares(random)
	slices.Sort(totals)
	slices.Sort(shares)
	for i, total := range totals {
		for j, share := range shares {
			n := amount.Percent(total, share)
			if i > 0 && amount.Percent(totals[i-1], share) > n || j > 0 && amount.Percent(total, shares[j-1]) > n {
				t.Errorf("Percent decreases to Percent(%d, %d) = %d", total, share, n)
			}
		}
	}
}

func checkCents(t *testing.T, n, cents, rest int) {
	t.Helper()
	if gotCents, gotRest := amount.Cents(n); gotCents != cents || gotRest != rest {
		t.Errorf("Cents(%d) = %d, %d; want %d, %d", n, gotCents, gotRest, cents, rest)
	}
}

func TestCentsExamples(t *testing.T) {
	checkCents(t, 25001, 20000, 5001)
	checkCents(t, -3, 0, -3)
}

func TestCentsAtMultiples(t *testing.T) {
	checkCents(t, 0, 0, 0)
	checkCents(t, 1, 0, 1)
	checkCents(t, api.Cent-1, 0, api.Cent-1)
	for _, k := range []int{1, 2, 3, 100, api.MaxAmount / api.Cent, api.MaxInt / api.Cent, math.MaxInt / api.Cent} {
		checkCents(t, k*api.Cent-1, (k-1)*api.Cent, api.Cent-1)
		checkCents(t, k*api.Cent, k*api.Cent, 0)
		checkCents(t, k*api.Cent+1, k*api.Cent, 1)
	}
	checkCents(t, math.MaxInt, 922337203685477*api.Cent, 5807)
}

func TestCentsOfNegativeNumbers(t *testing.T) {
	for _, n := range []int{-1, -api.Cent + 1, -api.Cent, -api.Cent - 1, -25001, -api.MaxAmount, -api.MaxInt, math.MinInt + 1, math.MinInt} {
		checkCents(t, n, 0, n)
	}
}

func checkSum(t *testing.T, l []int, want int, wantOK bool) {
	t.Helper()
	if got, ok := amount.Sum(l); got != want || ok != wantOK {
		t.Errorf("Sum(%v) = %d, %v; want %d, %v", l, got, ok, want, wantOK)
	}
}

func TestSumAtLimits(t *testing.T) {
	checkSum(t, nil, 0, true)
	checkSum(t, []int{}, 0, true)
	checkSum(t, []int{0}, 0, true)
	checkSum(t, []int{3, 1, 2}, 6, true)
	checkSum(t, []int{api.MaxInt}, api.MaxInt, true)
	checkSum(t, []int{api.MaxInt, 0, 0}, api.MaxInt, true)
	checkSum(t, []int{1, api.MaxInt - 1}, api.MaxInt, true)
	for _, l := range [][]int{
		{-1}, {math.MinInt}, {5, -1}, {-1, 5}, {-1, 1}, {math.MinInt, math.MinInt},
		{api.MaxInt, -1}, {api.MaxInt, 1, -1}, {-1, api.MaxInt, 1}, {api.MaxInt + 1, -1},
		{api.MaxInt + 1}, {math.MaxInt}, {api.MaxInt, 1}, {1, api.MaxInt}, {api.MaxInt, api.MaxInt},
		{math.MaxInt, 1}, {math.MaxInt, math.MaxInt, 2}, {1 << 61, 1 << 61},
		{1 << 62, 1 << 62, 1 << 62, 1 << 62}, {1 << 61, 1 << 61, 1 << 61, 1 << 61, 1 << 61, 1 << 61, 1 << 61, 1 << 61, 7},
	} {
		checkSum(t, l, 0, false)
	}
}

func TestSumIsTheDefinition(t *testing.T) {
	random := rand.New(rand.NewSource(8))
	for range 20000 {
		l := []int{}
		for range random.Intn(6) {
			l = append(l, randomInt(random))
		}
		if len(l) > 0 && random.Intn(10) == 0 {
			l[random.Intn(len(l))] *= -1
		}
		want, ok := wantSum(l)
		checkSum(t, l, want, ok)
	}
}

func TestSumKeepsItsArgument(t *testing.T) {
	l := []int{1, 2, 3, 4, 5}
	checkSum(t, l[:3], 6, true)
	if !slices.Equal(l, []int{1, 2, 3, 4, 5}) {
		t.Errorf("Sum has changed its argument to %v", l)
	}
}
