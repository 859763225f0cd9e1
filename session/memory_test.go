package session_test

import (
	"math/rand"
	"slices"
	"testing"

	"royalty/api"
	"royalty/session"
)

// spacious returns l in a slice with spare capacity, and the whole of the slice.
func spacious[T any](l []T, spare ...T) ([]T, []T) {
	space := append(slices.Clone(l), spare...)
	return space[:len(l)], space
}

// spoil overwrites l, and its spare capacity.
func spoil[T any](l []T, with T) {
	l = l[:cap(l)]
	for i := range l {
		l[i] = with
	}
}

// TestStreamsMemory overwrites the argument and results of Streams, each with its spare capacity.
func TestStreamsMemory(t *testing.T) {
	lists(31, 200, func(r *rand.Rand, l []api.Fact, distinct bool) {
		l, space := spacious(l, play(1, 0, 60000), play(50, 5000000, 60000), ofDevice(4, play(1, 5, 60000)))
		before := slices.Clone(space)
		a, b := session.Streams(l), session.Streams(l)
		want := slices.Clone(a)
		if !slices.Equal(space, before) {
			t.Error("Streams has changed its argument")
		}
		spoil(a, api.Stream{Device: -1})
		if !slices.Equal(space, before) {
			t.Error("a result of Streams is a part of its argument")
		}
		sameStreams(t, b, want)
		sameStreams(t, session.Streams(l), want)
		spoil(space, api.Fact{Kind: -1})
		sameStreams(t, b, want)
		sameStreams(t, session.Streams(before[:len(l)]), want)
	})
}

// TestPeriodMemory overwrites the argument and results of Period, each with its spare capacity. All streams of some lists have one period.
func TestPeriodMemory(t *testing.T) {
	r := rand.New(rand.NewSource(32))
	for _, numbers := range [][]int{{1}, {0, 1}, extremes} {
		for range 100 {
			given, space := spacious(arbitrary(r, r.Intn(20), numbers), arbitrary(r, 5, []int{1})...)
			before := slices.Clone(space)
			a, b := session.Period(given, 1), session.Period(given, 1)
			want := wantPeriod(before[:len(given)], 1)
			if !slices.Equal(space, before) {
				t.Error("Period has changed its argument")
			}
			spoil(a, api.Stream{Device: -9})
			if !slices.Equal(space, before) {
				t.Error("a result of Period is a part of its argument")
			}
			sameStreams(t, b, want)
			sameStreams(t, session.Period(given, 1), want)
			spoil(space, api.Stream{Device: -8})
			sameStreams(t, b, want)
		}
	}
}

// TestCallsApart makes calls with other arguments in between: nothing is kept.
func TestCallsApart(t *testing.T) {
	l := distinctLists()
	var want [][]api.Stream
	for _, plays := range l {
		want = append(want, wantStreams(plays))
	}
	r := rand.New(rand.NewSource(33))
	for range 200 {
		i := r.Intn(len(l))
		got := session.Streams(l[i])
		sameStreams(t, got, want[i])
		sameStreams(t, session.Period(got, 0), wantPeriod(want[i], 0))
		if f := l[i][0]; session.Counts(f) != qualifies(f) {
			t.Errorf("Counts(%+v) is wrong", f)
		}
	}
}
