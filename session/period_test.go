package session_test

import (
	"math/rand"
	"testing"

	"royalty/api"
	"royalty/session"
)

// wantPeriod is what Period returns for l and p.
func wantPeriod(l []api.Stream, p int) []api.Stream {
	var streams []api.Stream
	for i := range l {
		if l[i].Period == p {
			streams = append(streams, l[i])
		}
	}
	return streams
}

func checkPeriod(t *testing.T, l []api.Stream, p int) {
	t.Helper()
	sameStreams(t, session.Period(l, p), wantPeriod(l, p))
}

// streamFields returns pointers to all numbers of s.
func streamFields(s *api.Stream) []*int {
	return []*int{&s.Device, &s.ID, &s.Account, &s.Recording, &s.Territory, &s.Second, &s.Period, &s.Session, &s.Mark}
}

// arbitrary returns n streams that Streams never returns.
func arbitrary(r *rand.Rand, n int, numbers []int) []api.Stream {
	var l []api.Stream
	for range n {
		var s api.Stream
		for _, field := range streamFields(&s) {
			*field = numbers[r.Intn(len(numbers))]
		}
		l = append(l, s)
	}
	return l
}

func TestPeriodOfStreams(t *testing.T) {
	l := []api.Fact{play(1, 5, 60000), play(2, 2678400, 60000), ofDevice(2, play(1, 2678399, 60000)), ofDevice(3, play(1, 5097600, 60000)), play(3, 2678460, 60000)}
	streams := session.Streams(l)
	sameStreams(t, session.Period(streams, 0), []api.Stream{streamOf(l[0], 1), streamOf(l[2], 1)})
	sameStreams(t, session.Period(streams, 1), []api.Stream{streamOf(l[1], 2), streamOf(l[4], 2), streamOf(l[3], 1)})
	for _, p := range append(extremes, 2, 1199, 1200) {
		if p != 0 && p != 1 && len(session.Period(streams, p)) != 0 {
			t.Errorf("there are streams of period %d", p)
		}
		checkPeriod(t, streams, p)
	}
}

func TestPeriodOfNone(t *testing.T) {
	for _, p := range append(extremes, 0, 1199) {
		if len(session.Period(nil, p)) != 0 || len(session.Period([]api.Stream{}, p)) != 0 {
			t.Errorf("an empty list has streams of period %d", p)
		}
	}
}

// TestPeriodOfZeroStreams has streams without any number: they have the period 0.
func TestPeriodOfZeroStreams(t *testing.T) {
	l := make([]api.Stream, 3)
	sameStreams(t, session.Period(l, 0), l)
	if len(session.Period(l, 1)) != 0 {
		t.Error("there are streams of period 1")
	}
}

// TestPeriodAlone has streams that agree with a period in every field but Period, and the other way around.
func TestPeriodAlone(t *testing.T) {
	yes := api.Stream{Device: 1, ID: 1, Account: 1, Recording: 1, Territory: 1, Second: 1, Period: 5, Session: 1, Mark: 1}
	no := api.Stream{Device: 5, ID: 5, Account: 5, Recording: 5, Territory: 5, Second: 5, Period: 1, Session: 5, Mark: 5}
	sameStreams(t, session.Period([]api.Stream{no, yes, no, yes, yes}, 5), []api.Stream{yes, yes, yes})
}

func TestPeriodOfArbitraryStreams(t *testing.T) {
	r := rand.New(rand.NewSource(21))
	for range 1000 {
		for _, numbers := range [][]int{{1}, {-1, 0, 1, 2}, {0, 5, 1199, 1200}, extremes} {
			l := arbitrary(r, r.Intn(20), numbers)
			for _, p := range append(numbers, extremes...) {
				checkPeriod(t, l, p)
			}
		}
	}
}

// TestPeriodsOfLists splits the streams of lists by their periods: each stream is in one of the parts.
func TestPeriodsOfLists(t *testing.T) {
	lists(22, 500, func(r *rand.Rand, l []api.Fact, distinct bool) {
		streams := session.Streams(l)
		n := 0
		for p := range 1200 {
			part := session.Period(streams, p)
			sameStreams(t, part, wantPeriod(streams, p))
			n += len(part)
		}
		if n != len(streams) {
			t.Errorf("the parts have %d streams of %d", n, len(streams))
		}
	})
}
