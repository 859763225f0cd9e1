package amount_test

import (
	"math"
	"math/big"
	"math/rand"
	"slices"
	"testing"

	"royalty/amount"
	"royalty/api"
)

// wantQuota returns total * weight / whole, rounded down, and the remainder, by way of big integers.
func wantQuota(total, weight, whole int) (int, int) {
	n := new(big.Int).Mul(big.NewInt(int64(total)), big.NewInt(int64(weight)))
	quota, remainder := n.QuoRem(n, big.NewInt(int64(whole)), new(big.Int))
	return int(quota.Int64()), int(remainder.Int64())
}

// wantParts returns the parts as the chapter defines them; what rounding down leaves is given away one by one.
func wantParts(total int, weights []int) ([]int, bool) {
	whole, ok := wantSum(weights)
	if !ok || whole < 1 || whole > 1000000000000000 || total < 0 || total > api.MaxAmount {
		return nil, false
	}
	parts, remainders := []int{}, []int{}
	for _, weight := range weights {
		quota, remainder := wantQuota(total, weight, whole)
		parts, remainders = append(parts, quota), append(remainders, remainder)
	}
	sum, _ := wantSum(parts)
	for range total - sum {
		largest := slices.Max(remainders)
		i := slices.Index(remainders, largest)
		parts[i]++
		remainders[i] = -1
	}
	return parts, true
}

func checkParts(t *testing.T, total int, weights []int, want []int, wantOK bool) {
	t.Helper()
	if got, ok := amount.Apportion(total, weights); !slices.Equal(got, want) || ok != wantOK {
		t.Errorf("Apportion(%d, %v) = %v, %v; want %v, %v", total, weights, got, ok, want, wantOK)
	}
}

// apportion returns the parts of a valid total and valid weights.
func apportion(t *testing.T, total int, weights []int) []int {
	t.Helper()
	parts, ok := amount.Apportion(total, weights)
	if !ok || len(parts) != len(weights) {
		t.Fatalf("Apportion(%d, %v) = %v, %v", total, weights, parts, ok)
	}
	return parts
}

// randomWeights returns valid weights of any size, many of them equal or 0.
func randomWeights(random *rand.Rand) []int {
	l := make([]int, 1+random.Intn(8))
	most := 1 + random.Intn(api.MaxAmount/len(l))>>random.Intn(50)
	for i := range l {
		switch random.Intn(4) {
		case 0:
			l[i] = 0
		case 1:
			l[i] = l[random.Intn(i+1)]
		default:
			l[i] = random.Intn(most + 1)
		}
	}
	if sum, _ := wantSum(l); sum == 0 {
		l[random.Intn(len(l))] = most
	}
	return l
}

func randomTotal(random *rand.Rand) int {
	return random.Intn(api.MaxAmount+1) >> random.Intn(50)
}

// someCases calls f with valid totals and weights.
func someCases(f func(total int, weights []int)) {
	random := rand.New(rand.NewSource(9))
	for range 20000 {
		f(randomTotal(random), randomWeights(random))
		f(random.Intn(20), randomWeights(random))
	}
	for _, total := range []int{0, 1, api.Cent, api.MaxAmount - 1, api.MaxAmount} {
		f(total, []int{1})
		f(total, []int{api.MaxAmount})
		f(total, []int{0, api.MaxAmount, 0})
		f(total, []int{1, api.MaxAmount - 1})
		f(total, []int{api.MaxAmount / 2, api.MaxAmount / 2})
		f(total, []int{api.MaxAmount / 3, api.MaxAmount / 3, api.MaxAmount / 3, 1})
		f(total, []int{api.MaxAmount/3 + 1, api.MaxAmount / 3, api.MaxAmount / 3})
	}
}

func TestApportionExamples(t *testing.T) {
	checkParts(t, 100, []int{1, 1, 1}, []int{34, 33, 33}, true)
	checkParts(t, 10, []int{6, 3, 1, 0}, []int{6, 3, 1, 0}, true)
	checkParts(t, 7, []int{3, 3, 1}, []int{3, 3, 1}, true)
	checkParts(t, 5, []int{0, 0}, nil, false)
}

func TestApportionServesLargestRemaindersFirst(t *testing.T) {
	checkParts(t, 10, []int{1, 1, 1, 1, 3}, []int{2, 2, 1, 1, 4}, true)
	checkParts(t, 10, []int{3, 1, 1, 1, 1}, []int{4, 2, 2, 1, 1}, true)
	checkParts(t, 1, []int{1, 2, 2}, []int{0, 1, 0}, true)
	checkParts(t, 2, []int{1, 2, 2}, []int{0, 1, 1}, true)
	checkParts(t, 2, []int{0, 1, 0, 1, 1}, []int{0, 1, 0, 1, 0}, true)
	checkParts(t, 0, []int{0, 5, 3}, []int{0, 0, 0}, true)
}

// TestApportionOfSmallNumbers tries all lists of up to 4 weights from -1 to 4.
func TestApportionOfSmallNumbers(t *testing.T) {
	lists := [][]int{{}}
	for i := 0; i < len(lists); i++ {
		weights := lists[i]
		for total := -1; total < 13; total++ {
			want, ok := wantParts(total, weights)
			checkParts(t, total, weights, want, ok)
		}
		for weight := -1; weight < 5 && len(weights) < 4; weight++ {
			lists = append(lists, append(slices.Clone(weights), weight))
		}
	}
}

func TestApportionIsTheDefinition(t *testing.T) {
	someCases(func(total int, weights []int) {
		want, ok := wantParts(total, weights)
		checkParts(t, total, weights, want, ok)
	})
}

func TestApportionRefusesTotals(t *testing.T) {
	for _, total := range []int{-1, -100, -api.MaxAmount, math.MinInt, api.MaxAmount + 1, 2 * api.MaxAmount, api.MaxInt, math.MaxInt} {
		checkParts(t, total, []int{1}, nil, false)
		checkParts(t, total, []int{3, 0, 3}, nil, false)
		checkParts(t, total, []int{api.MaxAmount}, nil, false)
	}
}

func TestApportionRefusesWeights(t *testing.T) {
	for _, weights := range [][]int{
		nil, {}, {0}, {0, 0, 0},
		{-1}, {5, -1}, {-1, 5}, {1, -1}, {2, -1, 2}, {math.MinInt}, {math.MinInt, math.MinInt, 1},
		{api.MaxAmount + 1}, {api.MaxAmount, 1}, {1, api.MaxAmount}, {api.MaxAmount, api.MaxAmount},
		{api.MaxInt}, {math.MaxInt}, {math.MaxInt, math.MaxInt, 3}, {1 << 62, 1 << 62, 1 << 62, 1 << 62, 5}, {api.MaxAmount + 1, -1},
	} {
		for _, total := range []int{0, 1, 100, api.MaxAmount} {
			checkParts(t, total, weights, nil, false)
		}
	}
	checkParts(t, 5, []int{api.MaxAmount}, []int{5}, true)
	checkParts(t, 5, []int{0, api.MaxAmount - 1, 1}, []int{0, 5, 0}, true)
}

func TestApportionLosesNothing(t *testing.T) {
	someCases(func(total int, weights []int) {
		parts := apportion(t, total, weights)
		if sum, ok := wantSum(parts); sum != total || !ok {
			t.Errorf("the parts %v of %d and %v add up to %d", parts, total, weights, sum)
		}
		whole, _ := wantSum(weights)
		for i, weight := range weights {
			down, remainder := wantQuota(total, weight, whole)
			if up := down + min(remainder, 1); parts[i] != down && parts[i] != up {
				t.Errorf("part %d of %v, of %d and %v, is not from %d to %d", i, parts, total, weights, down, up)
			}
			if weight == 0 && parts[i] != 0 {
				t.Errorf("the weight 0 has a part: %v of %d and %v", parts, total, weights)
			}
		}
	})
}

func TestApportionKeepsTheOrderOfWeights(t *testing.T) {
	someCases(func(total int, weights []int) {
		parts := apportion(t, total, weights)
		for i, weight := range weights {
			for j, other := range weights[:i] {
				less := weight < other && parts[i] > parts[j]
				greater := weight > other && parts[i] < parts[j]
				equal := weight == other && parts[j] != parts[i] && parts[j] != parts[i]+1
				if less || greater || equal {
					t.Errorf("the parts %d and %d of %v are not as the weights %v", j, i, parts, weights)
				}
			}
		}
	})
}

func TestApportionOfMultiplesOfWeights(t *testing.T) {
	random := rand.New(rand.NewSource(10))
	someCases(func(total int, weights []int) {
		whole, _ := wantSum(weights)
		k := 1 + random.Intn(api.MaxAmount/whole)
		for _, k := range []int{2, k, api.MaxAmount / whole} {
			multiples := []int{}
			for _, weight := range weights {
				multiples = append(multiples, k*weight)
			}
			if k*whole <= api.MaxAmount {
				checkParts(t, total, multiples, apportion(t, total, weights), true)
			}
		}
	})
}

func TestApportionWithoutWeightsOfZero(t *testing.T) {
	someCases(func(total int, weights []int) {
		some, want := []int{}, []int{}
		for i, part := range apportion(t, total, weights) {
			if weights[i] > 0 {
				some, want = append(some, weights[i]), append(want, part)
			}
		}
		checkParts(t, total, some, want, true)
	})
}

func TestApportionAmongMany(t *testing.T) {
	const many = 300007
	weights := make([]int, many)
	for i := range weights {
		weights[i] = 1
	}
	total := api.MaxAmount - 1
	for i, part := range apportion(t, total, weights) {
		want := total / many
		if i < total%many {
			want++
		}
		if part != want {
			t.Fatalf("part %d of %d is %d, want %d", i, many, part, want)
		}
	}
}

func TestApportionKeepsToItsMemory(t *testing.T) {
	l := []int{5, 1, 3, 2, 9, 9}
	before := slices.Clone(l)
	first, second := apportion(t, 100, l[:4]), apportion(t, 100, l[:4])
	want, _ := wantParts(100, before[:4])
	for i := range first[:cap(first)] {
		first[:cap(first)][i] = -7
	}
	if !slices.Equal(l, before) || !slices.Equal(second, want) {
		t.Errorf("the weights are %v, the second parts %v", l, second)
	}
	l[0] = 1
	if !slices.Equal(second, want) {
		t.Errorf("the parts share the memory of the weights: %v", second)
	}
}
