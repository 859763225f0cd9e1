package session_test

import (
	"math/rand"
	"slices"
	"testing"

	"royalty/api"
	"royalty/session"
)

// The plays of these tests have accounts that tell them apart: the play at the index i of its list is of account i+1.

// playOf returns the play of a stream.
func playOf(l []api.Fact, s api.Stream) api.Fact {
	return l[s.Account-1]
}

// streamsOf returns the streams of a device.
func streamsOf(streams []api.Stream, device int) []api.Stream {
	return slices.DeleteFunc(slices.Clone(streams), func(s api.Stream) bool { return s.Device != device })
}

// without returns the facts of l that are not left out.
func without(l []api.Fact, out func(api.Fact) bool) []api.Fact {
	return slices.DeleteFunc(slices.Clone(l), out)
}

// TestNoOverlap is the first part of P8.3.
func TestNoOverlap(t *testing.T) {
	lists(11, 2000, func(r *rand.Rand, l []api.Fact, distinct bool) {
		ends := map[int]int{}
		for _, s := range session.Streams(l) {
			if s.Second < ends[s.Device] {
				t.Errorf("%+v begins before %d", s, ends[s.Device])
			}
			ends[s.Device] = end(playOf(l, s))
		}
	})
}

// TestNoMoreThanFive is the second part of P8.3. There are recordings that reach five.
func TestNoMoreThanFive(t *testing.T) {
	full := 0
	lists(12, 2000, func(r *rand.Rand, l []api.Fact, distinct bool) {
		counted := map[[3]int]int{}
		for _, s := range session.Streams(l) {
			k := [3]int{s.Device, s.Session, s.Recording}
			counted[k]++
			if counted[k] > 5 {
				t.Errorf("%+v is one too many", s)
			}
			if counted[k] == 5 {
				full++
			}
		}
	})
	if full == 0 {
		t.Error("no recording was played five times")
	}
}

// TestOtherDevices is the first part of P8.4: lists without the plays of a device, and lists with its plays alone.
func TestOtherDevices(t *testing.T) {
	lists(13, 1000, func(r *rand.Rand, l []api.Fact, distinct bool) {
		all := session.Streams(l)
		for device := 1; device <= 4; device++ {
			own := session.Streams(without(l, func(f api.Fact) bool { return f.Device != device }))
			sameStreams(t, own, streamsOf(all, device))
			rest := session.Streams(without(l, func(f api.Fact) bool { return f.Device == device }))
			sameStreams(t, rest, slices.DeleteFunc(slices.Clone(all), func(s api.Stream) bool { return s.Device == device }))
		}
	})
}

// TestOtherFacts is the second part of P8.4: facts that are no plays are put among the plays, and left out.
func TestOtherFacts(t *testing.T) {
	others := append(otherKinds(), invalid()...)
	lists(14, 1000, func(r *rand.Rand, l []api.Fact, distinct bool) {
		mixed := among(r, l, others)
		sameStreams(t, session.Streams(mixed), session.Streams(l))
		sameStreams(t, session.Streams(without(mixed, func(f api.Fact) bool { return f.Kind != api.FPlay })), session.Streams(l))
	})
}

// isBefore reports whether the play at the index i of a list comes before another play that is put in at the index at.
func isBefore(l []api.Fact, i int, f api.Fact, at int) bool {
	if l[i].Second != f.Second {
		return l[i].Second < f.Second
	}
	if l[i].ID != f.ID {
		return l[i].ID < f.ID
	}
	return i < at
}

// checkLate puts a further play in at an index of l: the streams whose plays come before it are the same, and so are those of other devices.
func checkLate(t *testing.T, l []api.Fact, f api.Fact, at int) {
	t.Helper()
	f.Account = 1000000
	changed := func(s api.Stream) bool {
		return s.Device == f.Device && (s.Account == f.Account || !isBefore(l, s.Account-1, f, at))
	}
	before := slices.DeleteFunc(session.Streams(l), changed)
	after := slices.DeleteFunc(session.Streams(slices.Insert(slices.Clone(l), at, f)), changed)
	sameStreams(t, after, before)
}

// TestLatePlays is P8.5, with a further play at every place of the list, at, before and after the Second of every play.
func TestLatePlays(t *testing.T) {
	lists(15, 60, func(r *rand.Rand, l []api.Fact, distinct bool) {
		for at := range len(l) + 1 {
			for _, near := range l {
				f := play(1+r.Intn(45), max(0, near.Second+r.Intn(61)-30), amounts[r.Intn(len(amounts))])
				f.Device = near.Device
				f.Recording = 1 + r.Intn(2)
				checkLate(t, l, f, at)
			}
		}
	})
}

// TestLateTies has further plays with the Device and the Second of a play, and with its ID, too.
func TestLateTies(t *testing.T) {
	lists(16, 60, func(r *rand.Rand, l []api.Fact, distinct bool) {
		for at := range len(l) + 1 {
			for _, near := range l {
				f := near
				f.ID = max(1, f.ID+r.Intn(3)-1)
				f.Amount, f.Mark = 60000, 0
				checkLate(t, l, f, at)
			}
		}
	})
}

// TestEarlyAndLate has a further play that comes before all others, and one that comes after them.
func TestEarlyAndLate(t *testing.T) {
	l := []api.Fact{play(1, 100, 30000), play(2, 130, 30000), play(3, 300, 30000)}
	for i := range l {
		l[i].Account = i + 1
	}
	early, late := play(4, 71, 30000), play(5, 329, 30000)
	for at := range len(l) + 1 {
		checkSessions(t, slices.Insert(slices.Clone(l), at, early), [2]int{4, 1}, [2]int{2, 1}, [2]int{3, 1})
		checkSessions(t, slices.Insert(slices.Clone(l), at, late), [2]int{1, 1}, [2]int{2, 1}, [2]int{3, 1})
		late.Second = 3155759999
		checkSessions(t, slices.Insert(slices.Clone(l), at, late), [2]int{1, 1}, [2]int{2, 1}, [2]int{3, 1}, [2]int{5, 2})
		late.Second = 329
	}
}

// reasons reports whether a play begins before the end of one of the streams before it, and whether five of them have its recording and its session.
func reasons(l []api.Fact, one judged, before []api.Stream) (bool, bool) {
	overlaps, same := false, 0
	for _, s := range before {
		overlaps = overlaps || one.fact.Second < end(playOf(l, s))
		if s.Recording == one.fact.Recording && s.Session == one.session {
			same++
		}
	}
	return overlaps, same >= 5
}

// TestReasons is P8.6: every play that qualifies counts, unless there is a reason against it. Each reason occurs alone.
func TestReasons(t *testing.T) {
	counted, overlaps, loops := 0, 0, 0
	lists(17, 2000, func(r *rand.Rand, l []api.Fact, distinct bool) {
		streams := session.Streams(l)
		for _, device := range devicesOf(l) {
			own := streamsOf(streams, device)
			met := 0
			for _, one := range judge(l, device) {
				if met < len(own) && own[met].Account == one.fact.Account {
					met++
					continue
				}
				if !qualifies(one.fact) {
					continue
				}
				overlap, loop := reasons(l, one, own[:met])
				switch {
				case overlap && !loop:
					overlaps++
				case loop && !overlap:
					loops++
				case !loop:
					t.Errorf("%+v does not count, without a reason", one.fact)
				}
			}
			if met != len(own) {
				t.Errorf("%d streams of %d are those of plays in their order", met, len(own))
			}
			counted += met
		}
	})
	if counted == 0 || overlaps == 0 || loops == 0 {
		t.Error(counted, "plays count,", overlaps, "overlap,", loops, "are loops")
	}
}

// TestReasonsOfExamples has plays that have one reason, both, or none.
func TestReasonsOfExamples(t *testing.T) {
	var l []api.Fact
	for i := range 5 {
		l = append(l, play(i+1, 100*i, 30000))
	}
	l = append(l, play(6, 429, 30000), ofRecording(8, play(7, 429, 30000)), play(8, 430, 30000), ofRecording(8, play(9, 430, 30000)))
	for i := range l {
		l[i].Account = i + 1
	}
	streams := session.Streams(l)
	if len(streams) != 6 || streams[5].ID != 9 {
		t.Fatalf("the streams are %+v", streams)
	}
	for i, want := range [][2]bool{{true, true}, {true, false}, {false, true}, {false, false}} {
		overlap, loop := reasons(l, judge(l, 1)[5+i], streams[:5])
		if overlap != want[0] || loop != want[1] {
			t.Errorf("play %d overlaps: %v, is a loop: %v", 6+i, overlap, loop)
		}
	}
}
