package session_test

import (
	"math/rand"
	"slices"
	"testing"

	"royalty/api"
	"royalty/session"
)

// permutations calls visit with l in every order.
func permutations(l []api.Fact, visit func([]api.Fact)) {
	if len(l) == 0 {
		visit(nil)
		return
	}
	for i := range l {
		rest := slices.Delete(slices.Clone(l), i, i+1)
		permutations(rest, func(order []api.Fact) { visit(append([]api.Fact{l[i]}, order...)) })
	}
}

// distinctLists returns short lists in which no two plays have the same Device and ID. They have what the chapter speaks of: equal Seconds, overlaps, loops, sessions, previews, and devices.
func distinctLists() [][]api.Fact {
	return [][]api.Fact{
		{play(1, 0, 30000), play(2, 30, 30000), play(3, 59, 30000), play(4, 60, 29999), play(5, 61, 30000)},
		{play(5, 7, 30000), play(4, 7, 60000), play(3, 7, 29999), preview(play(2, 7, 60000)), play(6, 37, 30000), play(1, 67, 30000)},
		{play(1, 0, 30000), play(2, 100, 30000), play(3, 200, 30000), play(4, 300, 30000), play(5, 400, 30000), play(6, 500, 30000)},
		{play(1, 0, 30000), play(2, 1800, 0), play(3, 3600, 30000), play(4, 5401, 30000), preview(play(5, 7201, 60000)), play(6, 9002, 30000)},
		{play(1, 0, 30000), ofDevice(2, play(1, 0, 30000)), ofDevice(2, play(2, 29, 30000)), play(2, 29, 30000), ofDevice(3, play(1, 29, 30000)), play(3, 30, 30000)},
		{play(2, 0, 3600000), play(1, 0, 3600000), play(3, 1800, 60000), play(4, 3599, 60000), play(5, 3600, 60000)},
	}
}

// TestEveryOrder has lists in every order: where no two plays have the same Device and ID, the streams are the same.
func TestEveryOrder(t *testing.T) {
	for _, l := range distinctLists() {
		want := wantStreams(l)
		if len(want) == 0 {
			t.Error("no streams")
		}
		permutations(l, func(order []api.Fact) { sameStreams(t, session.Streams(order), want) })
	}
}

func TestOtherOrders(t *testing.T) {
	lists(6, 500, func(r *rand.Rand, l []api.Fact, distinct bool) {
		if !distinct {
			return
		}
		want := session.Streams(l)
		slices.Reverse(l)
		sameStreams(t, session.Streams(l), want)
		for range 5 {
			r.Shuffle(len(l), func(i, j int) { l[i], l[j] = l[j], l[i] })
			sameStreams(t, session.Streams(l), want)
		}
	})
}

// TestOrdersThatKeepTies has plays with the same Device and ID: the order of the list makes no difference as long as those with the same Second, too, stay in their order.
func TestOrdersThatKeepTies(t *testing.T) {
	l := []api.Fact{play(1, 0, 30000), ofRecording(8, play(1, 0, 60000)), play(1, 30, 30000), play(1, 60, 30000), ofDevice(2, play(1, 0, 30000)), play(2, 0, 30000)}
	for i := range l {
		l[i].Account = i + 1
	}
	want, other := wantStreams(l), wantStreams(append([]api.Fact{l[1], l[0]}, l[2:]...))
	if slices.Equal(want, other) {
		t.Error("the order makes no difference")
	}
	permutations(l, func(order []api.Fact) {
		if slices.Index(order, l[0]) < slices.Index(order, l[1]) {
			sameStreams(t, session.Streams(order), want)
		} else {
			sameStreams(t, session.Streams(order), other)
		}
	})
}
