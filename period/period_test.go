package period_test

import (
	"math"
	"math/rand"
	"testing"
	"time"

	"royalty/api"
	"royalty/period"
)

const daySeconds = 86400

// begin is the beginning of second 0. The tests take the calendar from package time, which knows nothing of periods.
var begin = time.Date(2000, time.January, 1, 0, 0, 0, 0, time.UTC)

// wantOf is the period and the day of a second, as package time has them.
func wantOf(second int) (int, int) {
	at := time.Unix(begin.Unix()+int64(second), 0).UTC()
	return (at.Year()-2000)*12 + int(at.Month()) - 1, at.Day()
}

// wantStart is the first second of a period, or of the month after the last one, as package time has it.
func wantStart(p int) int {
	first := time.Date(2000+p/12, time.Month(p%12+1), 1, 0, 0, 0, 0, time.UTC)
	return int(first.Unix() - begin.Unix())
}

// wantDays is the number of days of a period: the day before the first one of the next month, as package time has it.
func wantDays(p int) int {
	return time.Date(2000+p/12, time.Month(p%12+2), 0, 0, 0, 0, 0, time.UTC).Day()
}

// noPeriods are numbers that are neither a period nor MaxPeriods, among them such as become a period if bits are cut off or the number wraps around.
func noPeriods() []int {
	l := []int{
		-1, -2, -11, -12, -13, -47, -48, -49, -1199, -1200, -1201, -api.MaxInt, math.MinInt, math.MinInt + 1, math.MinInt + 48,
		api.MaxPeriods + 1, api.MaxPeriods + 11, api.MaxPeriods + 12, api.MaxPeriods + 48, 2 * api.MaxPeriods, api.MaxSeconds,
		api.MaxInt, api.MaxInt + 1, math.MaxInt - 1, math.MaxInt,
	}
	for _, bits := range []int{11, 16, 31, 32, 33, 62} {
		n := 1 << bits
		l = append(l, -n-1, -n, -n+1, -n+12, n-1, n, n+1, n+12)
	}
	random := rand.New(rand.NewSource(1))
	for range 1000 {
		n := random.Int() >> random.Intn(52)
		l = append(l, -1-n, api.MaxPeriods+1+min(n, math.MaxInt-api.MaxPeriods-1))
	}
	return l
}

// noSeconds are numbers that are not a second.
func noSeconds() []int {
	l := []int{
		-1, -2, -daySeconds, -daySeconds - 1, -31 * daySeconds, -api.MaxSeconds, -api.MaxSeconds - 1, -api.MaxInt, math.MinInt, math.MinInt + 1,
		api.MaxSeconds, api.MaxSeconds + 1, api.MaxSeconds + daySeconds, 2 * api.MaxSeconds, 1 << 32, 1<<32 + 5, 1 << 33, 1 << 48, 1 << 62,
		api.MaxInt, api.MaxInt + 1, math.MaxInt - 1, math.MaxInt,
	}
	random := rand.New(rand.NewSource(2))
	for range 1000 {
		n := random.Int() >> random.Intn(62)
		l = append(l, -1-n, api.MaxSeconds+min(n, math.MaxInt-api.MaxSeconds))
	}
	return l
}

// someSeconds are seconds, among them those about the beginnings of all periods.
func someSeconds() []int {
	l := []int{}
	for p := range api.MaxPeriods {
		for _, second := range []int{wantStart(p), wantStart(p) + 1, wantStart(p) + daySeconds - 1, wantStart(p+1) - daySeconds, wantStart(p+1) - 1} {
			l = append(l, second)
		}
	}
	random := rand.New(rand.NewSource(3))
	for range 10000 {
		l = append(l, random.Intn(api.MaxSeconds))
	}
	return l
}

func checkOf(t *testing.T, second, p, day int) {
	t.Helper()
	if gotP, gotDay, ok := period.Of(second); gotP != p || gotDay != day || !ok {
		t.Fatalf("Of(%d) = %d, %d, %v; want %d, %d, true", second, gotP, gotDay, ok, p, day)
	}
}

func checkNoSecond(t *testing.T, second int) {
	t.Helper()
	if p, day, ok := period.Of(second); p != 0 || day != 0 || ok {
		t.Fatalf("Of(%d) = %d, %d, %v; want 0, 0, false", second, p, day, ok)
	}
}

func checkStart(t *testing.T, p, want int) {
	t.Helper()
	if got := period.Start(p); got != want {
		t.Fatalf("Start(%d) = %d, want %d", p, got, want)
	}
}

func checkDays(t *testing.T, p, want int) {
	t.Helper()
	if got := period.Days(p); got != want {
		t.Fatalf("Days(%d) = %d, want %d", p, got, want)
	}
}

func TestOfExamples(t *testing.T) {
	checkOf(t, 0, 0, 1)
	checkOf(t, 5097599, 1, 28)
	checkOf(t, 5097600, 1, 29)
	checkOf(t, 5184000, 2, 1)
	checkOf(t, 3155759999, 1199, 31)
	checkNoSecond(t, 3155760000)
}

func TestStartExamples(t *testing.T) {
	checkStart(t, 2, 5184000)
	checkStart(t, 12, 31622400)
	checkStart(t, 1200, 3155760000)
}

func TestDaysExamples(t *testing.T) {
	checkDays(t, 1, 29)
	checkDays(t, 13, 28)
}

func TestOfAtBoundariesOfMonthsAndYears(t *testing.T) {
	for _, c := range []struct{ second, p, day int }{
		{daySeconds - 1, 0, 1},
		{daySeconds, 0, 2},
		{31*daySeconds - 1, 0, 31},
		{31 * daySeconds, 1, 1},
		{60*daySeconds - 1, 1, 29},   // the last second of 29 February 2000
		{366*daySeconds - 1, 11, 31}, // the last second of 2000
		{366 * daySeconds, 12, 1},
		{731*daySeconds - 1, 23, 31}, // the last second of 2001
		{731 * daySeconds, 24, 1},
		{1461*daySeconds - 1, 47, 31}, // the last second of 2003
		{1461 * daySeconds, 48, 1},
		{1520 * daySeconds, 49, 29}, // 29 February 2004
		{1521*daySeconds - 1, 49, 29},
		{1521 * daySeconds, 50, 1},
		{api.MaxSeconds - 31*daySeconds, 1199, 1},
		{api.MaxSeconds - 31*daySeconds - 1, 1198, 30},
		{api.MaxSeconds - 1, 1199, 31},
	} {
		checkOf(t, c.second, c.p, c.day)
	}
}

func TestOfIsTheCalendar(t *testing.T) {
	for day := range api.MaxSeconds / daySeconds {
		for _, second := range []int{day * daySeconds, day*daySeconds + 1, day*daySeconds + daySeconds/2, day*daySeconds + daySeconds - 1} {
			p, d := wantOf(second)
			checkOf(t, second, p, d)
		}
	}
	random := rand.New(rand.NewSource(4))
	for range 100000 {
		second := random.Intn(api.MaxSeconds)
		p, d := wantOf(second)
		checkOf(t, second, p, d)
	}
}

func TestStartAndDaysAreTheCalendar(t *testing.T) {
	for p := range api.MaxPeriods {
		checkStart(t, p, wantStart(p))
		checkDays(t, p, wantDays(p))
	}
	checkStart(t, api.MaxPeriods, api.MaxSeconds)
	checkDays(t, api.MaxPeriods, 0)
}

func TestLeapYears(t *testing.T) {
	for year := 2000; year < 2100; year++ {
		want := 28
		if year%4 == 0 {
			want = 29
		}
		checkDays(t, (year-2000)*12+1, want)
	}
}

func TestNumbersThatAreNoSecond(t *testing.T) {
	for _, n := range noSeconds() {
		checkNoSecond(t, n)
	}
}

func TestNumbersThatAreNoPeriod(t *testing.T) {
	for _, n := range noPeriods() {
		checkStart(t, n, -1)
		checkDays(t, n, 0)
		checkFormatRefuses(t, n)
	}
	checkFormatRefuses(t, api.MaxPeriods)
}

// periodsWith returns the periods that contain a second, going by Start alone.
func periodsWith(second int) []int {
	l := []int{}
	for p := range api.MaxPeriods {
		if period.Start(p) <= second && second < period.Start(p+1) {
			l = append(l, p)
		}
	}
	return l
}

func TestEverySecondLiesInOnePeriod(t *testing.T) {
	for i, second := range someSeconds() {
		p, _, ok := period.Of(second)
		if !ok || second < period.Start(p) || second >= period.Start(p+1) {
			t.Fatalf("Of(%d) = %d, %v, but that period is from %d to %d", second, p, ok, period.Start(p), period.Start(p+1)-1)
		}
		if i%10 != 0 {
			continue
		}
		if l := periodsWith(second); len(l) != 1 || l[0] != p {
			t.Fatalf("the second %d lies in the periods %v; Of has %d", second, l, p)
		}
	}
}

func TestPeriodsFollowEachOther(t *testing.T) {
	checkStart(t, 0, 0)
	for p := range api.MaxPeriods {
		checkStart(t, p+1, period.Start(p)+daySeconds*period.Days(p))
		checkOf(t, period.Start(p), p, 1)
		checkOf(t, period.Start(p+1)-1, p, period.Days(p))
	}
	checkStart(t, api.MaxPeriods, api.MaxSeconds)
}

func TestLaterSecondsLieInTheSamePeriodOrLaterOnes(t *testing.T) {
	random := rand.New(rand.NewSource(5))
	for range 100000 {
		second := random.Intn(api.MaxSeconds)
		later := second + random.Intn(api.MaxSeconds-second)>>random.Intn(32)
		p, day, _ := period.Of(second)
		laterP, laterDay, _ := period.Of(later)
		if laterP < p || laterP == p && laterDay < day {
			t.Fatalf("the second %d is on day %d of period %d, but %d is on day %d of period %d", second, day, p, later, laterDay, laterP)
		}
	}
}

func TestDaysOfAPeriodCountUp(t *testing.T) {
	random := rand.New(rand.NewSource(6))
	for p := range api.MaxPeriods {
		for day := 1; day <= period.Days(p); day++ {
			first := period.Start(p) + (day-1)*daySeconds
			checkOf(t, first, p, day)
			checkOf(t, first+random.Intn(daySeconds), p, day)
			checkOf(t, first+daySeconds-1, p, day)
		}
	}
}
