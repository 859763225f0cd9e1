package session_test

import (
	"math/rand"
	"slices"
	"testing"

	"royalty/api"
	"royalty/session"
)

func TestExamples(t *testing.T) {
	checkSessions(t, []api.Fact{play(1, 0, 30000), play(2, 30, 30000), play(3, 59, 30000)}, [2]int{1, 1}, [2]int{2, 1})
	checkSessions(t, []api.Fact{play(1, 0, 29999), play(2, 10, 30000)}, [2]int{2, 1})
	checkSessions(t, []api.Fact{play(1, 0, 60001), play(2, 60, 30000), play(3, 61, 30000)}, [2]int{1, 1}, [2]int{3, 1})
	checkSessions(t, []api.Fact{play(1, 0, 30000), play(2, 1800, 30000), play(3, 3601, 30000)}, [2]int{1, 1}, [2]int{2, 1}, [2]int{3, 2})
	var six []api.Fact
	for i := range 6 {
		six = append(six, play(i+1, 100*i, 30000))
	}
	checkSessions(t, six, [2]int{1, 1}, [2]int{2, 1}, [2]int{3, 1}, [2]int{4, 1}, [2]int{5, 1})
}

func TestNoPlays(t *testing.T) {
	checkSessions(t, nil)
	checkSessions(t, []api.Fact{})
	checkSessions(t, otherKinds())
	checkSessions(t, invalid())
	checkSessions(t, []api.Fact{play(1, 0, 29999), preview(play(2, 100, 60000))})
}

// TestOthersAmong has facts that are no plays before, between and after plays, and invalid plays that would count, end late, or continue a session.
func TestOthersAmong(t *testing.T) {
	l := []api.Fact{play(1, 0, 30000), play(2, 1801, 30000), ofDevice(2, play(3, 5, 60000))}
	want := [][2]int{{1, 1}, {2, 2}, {3, 1}}
	others := append(otherKinds(), invalid()...)
	for _, other := range others {
		for at := range len(l) + 1 {
			checkSessions(t, slices.Insert(slices.Clone(l), at, other), want...)
		}
	}
	checkSessions(t, among(rand.New(rand.NewSource(2)), l, others), want...)
	late := with(play(4, 900, 86400000), func(f *api.Fact) { f.Version = 0 })
	checkSessions(t, append(slices.Clone(l), late), want...)
}

func TestOneStream(t *testing.T) {
	f := api.Fact{Kind: api.FPlay, ID: 11, Version: 12, Account: 13, Device: 14, Recording: 15, Territory: 6, Second: 5184000, Amount: 60000}
	want := []api.Stream{{Device: 14, ID: 11, Account: 13, Recording: 15, Territory: 6, Second: 5184000, Period: 2, Session: 1, Mark: 1}}
	sameStreams(t, session.Streams([]api.Fact{f}), want)
	f = api.Fact{Kind: api.FPlay, ID: 1000000, Version: 1000, Account: 1000000, Device: 1000000, Recording: 1000000, Territory: 7, Second: 3155759999, Amount: 86400000}
	want = []api.Stream{{Device: 1000000, ID: 1000000, Account: 1000000, Recording: 1000000, Territory: 7, Second: 3155759999, Period: 1199, Session: 1, Mark: 1}}
	sameStreams(t, session.Streams([]api.Fact{f}), want)
	f = api.Fact{Kind: api.FPlay, ID: 1, Version: 1, Account: 1, Device: 1, Recording: 1, Amount: 30000}
	want = []api.Stream{{Device: 1, ID: 1, Account: 1, Recording: 1, Session: 1, Mark: 1}}
	sameStreams(t, session.Streams([]api.Fact{f}), want)
}

// TestPeriods has plays in the first second of every month on one device, and in the last one on another. A play belongs to the month in which it begins.
func TestPeriods(t *testing.T) {
	var firsts, lasts []api.Fact
	var want []api.Stream
	begin := 0
	for p := range 1200 {
		next := begin
		for next < 3155760000 && monthOf(next) == p {
			next += 86400
		}
		firsts = append(firsts, play(p+1, begin, 60000))
		lasts = append(lasts, ofDevice(2, play(p+1, next-1, 60000)))
		begin = next
	}
	for _, f := range append(firsts, lasts...) {
		s := streamOf(f, f.ID)
		s.Period = f.ID - 1
		want = append(want, s)
	}
	if begin != 3155760000 {
		t.Error("the months end at", begin)
	}
	sameStreams(t, session.Streams(append(firsts, lasts...)), want)
}

// TestPause has two plays with any difference of their Seconds, each of which qualifies or not.
func TestPause(t *testing.T) {
	for _, first := range []api.Fact{play(1, 7, 30000), play(1, 7, 0), play(1, 7, 29999), preview(play(1, 7, 60000))} {
		for _, step := range []int{60, 1799, 1800, 1801, 1802, 3600, 3601, 1000000} {
			number := 1
			if step > 1800 {
				number = 2
			}
			var want [][2]int
			if qualifies(first) {
				want = [][2]int{{1, 1}}
			}
			want = append(want, [2]int{2, number})
			checkSessions(t, []api.Fact{first, play(2, 7+step, 30000)}, want...)
		}
	}
}

// TestPauseFromAnyPlay has plays that do not count, and continue or begin sessions nevertheless.
func TestPauseFromAnyPlay(t *testing.T) {
	for _, between := range []api.Fact{play(2, 1800, 0), preview(play(2, 1800, 60000)), play(2, 1000, 29999), preview(play(2, 1700, 0))} {
		last := play(3, between.Second+1800, 30000)
		checkSessions(t, []api.Fact{play(1, 0, 30000), between, last}, [2]int{1, 1}, [2]int{3, 1})
		last.Second++
		checkSessions(t, []api.Fact{play(1, 0, 30000), between, last}, [2]int{1, 1}, [2]int{3, 2})
	}
	alone := []api.Fact{play(1, 0, 0), preview(play(2, 1801, 60000)), play(3, 3602, 29999), play(4, 5403, 30000), play(5, 7203, 30000)}
	checkSessions(t, alone, [2]int{4, 4}, [2]int{5, 4})
	overlapped := []api.Fact{play(1, 0, 4000000), play(2, 1800, 30000), play(3, 3600, 30000), play(4, 5400, 30000)}
	checkSessions(t, overlapped, [2]int{1, 1}, [2]int{4, 1})
}

// TestPauseFromTheBeginning has a long play: the pause is counted from its Second, not from its end.
func TestPauseFromTheBeginning(t *testing.T) {
	checkSessions(t, []api.Fact{play(1, 0, 3600000), play(2, 3600, 30000)}, [2]int{1, 1}, [2]int{2, 2})
	checkSessions(t, []api.Fact{play(1, 0, 3600000), play(2, 1801, 30000), play(3, 3600, 30000)}, [2]int{1, 1}, [2]int{3, 2})
	checkSessions(t, []api.Fact{play(1, 0, 86400000), play(2, 2000, 30000), play(3, 86399, 30000), play(4, 86400, 30000)}, [2]int{1, 1}, [2]int{4, 3})
}

func TestOverlap(t *testing.T) {
	for _, c := range []struct{ amount, lasts int }{{30000, 30}, {30001, 31}, {30999, 31}, {31000, 31}, {59999, 60}, {60000, 60}, {60001, 61}, {1000000, 1000}, {1000999, 1001}, {86399001, 86400}, {86400000, 86400}} {
		for _, begin := range []int{0, 1, 2678399, 3155759999 - 86400} {
			first := play(1, begin, c.amount)
			number := 1
			if c.lasts > 1800 {
				number = 2
			}
			checkSessions(t, []api.Fact{first, play(2, begin+c.lasts, 30000)}, [2]int{1, 1}, [2]int{2, number})
			checkSessions(t, []api.Fact{first, ofRecording(8, play(2, begin+c.lasts-1, 30000))}, [2]int{1, 1})
			checkSessions(t, []api.Fact{first, play(2, begin, 30000)}, [2]int{1, 1})
			checkSessions(t, []api.Fact{first, ofDevice(2, play(2, begin+c.lasts-1, 30000))}, [2]int{1, 1}, [2]int{2, 1})
		}
	}
}

// TestOverlapAtTheEnd has plays that end after the last second of all.
func TestOverlapAtTheEnd(t *testing.T) {
	for _, amount := range []int{30000, 60001, 86400000} {
		first := play(1, 3155759990, amount)
		checkSessions(t, []api.Fact{first, play(2, 3155759999, 30000)}, [2]int{1, 1})
		checkSessions(t, []api.Fact{play(3, 3155759999, amount), play(4, 3155759999, amount)}, [2]int{3, 1})
	}
	checkSessions(t, []api.Fact{play(1, 3155759969, 30000), play(2, 3155759999, 30000)}, [2]int{1, 1}, [2]int{2, 1})
}

// TestOverlapOfWhatCounted has plays that do not count: they do not keep others from counting, however long they last.
func TestOverlapOfWhatCounted(t *testing.T) {
	checkSessions(t, []api.Fact{play(1, 0, 60000), play(2, 59, 600000), play(3, 60, 30000)}, [2]int{1, 1}, [2]int{3, 1})
	checkSessions(t, []api.Fact{preview(play(1, 0, 600000)), play(2, 1, 30000)}, [2]int{2, 1})
	var l []api.Fact
	for i := range 5 {
		l = append(l, play(i+1, 100*i, 30000))
	}
	l = append(l, play(6, 500, 600000), ofRecording(8, play(7, 501, 30000)))
	checkSessions(t, l, [2]int{1, 1}, [2]int{2, 1}, [2]int{3, 1}, [2]int{4, 1}, [2]int{5, 1}, [2]int{7, 1})
	chain := []api.Fact{play(1, 0, 30000), play(2, 29, 30000), play(3, 58, 30000), play(4, 87, 30000), play(5, 88, 30000)}
	checkSessions(t, chain, [2]int{1, 1}, [2]int{3, 1}, [2]int{5, 1})
}

// TestLoops has plays of two recordings in turn, six of each in one session.
func TestLoops(t *testing.T) {
	var l []api.Fact
	var want [][2]int
	for i := range 12 {
		l = append(l, ofRecording(7+i%2, play(i+1, 1000*i, 30000)))
		if i < 10 {
			want = append(want, [2]int{i + 1, 1})
		}
	}
	checkSessions(t, l, want...)
	l = append(l, play(13, 12000, 30000), ofRecording(9, play(14, 13000, 30000)), ofRecording(8, play(15, 14000, 30000)))
	want = append(want, [2]int{14, 1})
	checkSessions(t, l, want...)
	for i := range 7 {
		l = append(l, play(16+i, 15801+100*i, 30000))
		if i < 5 {
			want = append(want, [2]int{16 + i, 2})
		}
	}
	checkSessions(t, l, want...)
}

// TestLoopsOfWhatCounted has plays of a recording that do not count among five that do.
func TestLoopsOfWhatCounted(t *testing.T) {
	var l []api.Fact
	var want [][2]int
	for i := range 5 {
		l = append(l, play(10*i+1, 100*i, 60000), play(10*i+2, 100*i+59, 60000), play(10*i+3, 100*i+70, 29999), preview(play(10*i+4, 100*i+80, 60000)))
		l = append(l, ofDevice(2, play(10*i+5, 100*i, 60000)))
		want = append(want, [2]int{10*i + 1, 1})
	}
	l = append(l, play(60, 600, 30000))
	for i := range 5 {
		want = append(want, [2]int{10*i + 5, 1})
	}
	checkSessions(t, l, want...)
}

// TestLoopsAnyAccount has six plays of a recording on a device by several accounts and in several territories: they are one session.
func TestLoopsAnyAccount(t *testing.T) {
	var l []api.Fact
	for i := range 6 {
		l = append(l, with(play(i+1, 100*i, 30000), func(f *api.Fact) { f.Account, f.Territory, f.Version = i+1, i, i+1 }))
	}
	checkSessions(t, l, [2]int{1, 1}, [2]int{2, 1}, [2]int{3, 1}, [2]int{4, 1}, [2]int{5, 1})
}

// TestLoopsEachSession has a few sessions of six plays each, and recordings that count in some of them.
func TestLoopsEachSession(t *testing.T) {
	var l []api.Fact
	for number := range 10 {
		for i := range 12 {
			l = append(l, ofRecording(7+i%(1+number%4), play(100*number+i+1, 10000*number+100*i, 30000)))
		}
	}
	checkStreams(t, l)
	if n := len(session.Streams(l)); n != 5+10+12+12+5+10+12+12+5+10 {
		t.Errorf("%d streams", n)
	}
}

func TestOrder(t *testing.T) {
	bySecond := []api.Fact{play(1, 100, 30000), play(2, 50, 30000), play(3, 0, 30000), play(4, 129, 30000), play(5, 79, 30000)}
	checkSessions(t, bySecond, [2]int{3, 1}, [2]int{2, 1}, [2]int{1, 1})
	byID := []api.Fact{play(300, 5, 30000), play(20, 5, 60000), play(1000, 5, 90000), play(3, 5, 29999), play(19, 65, 30000), play(2, 64, 30000)}
	checkSessions(t, byID, [2]int{20, 1}, [2]int{19, 1})
}

// TestOrderInTheList has plays with the same Device, ID and Second: the first one in the list that qualifies counts.
func TestOrderInTheList(t *testing.T) {
	l := []api.Fact{play(4, 5, 29999), preview(play(4, 5, 60000)), play(4, 5, 60000), play(4, 5, 30000), play(4, 5, 60000)}
	for i := range l {
		l[i].Account, l[i].Recording, l[i].Territory, l[i].Version = i+1, 9-i, i, 9-i
	}
	later := play(5, 35, 30000)
	for range l {
		first := l[slices.IndexFunc(l, qualifies)]
		want := []api.Stream{streamOf(first, 1)}
		if first.Amount == 30000 {
			want = append(want, streamOf(later, 1))
		}
		for at := range len(l) + 1 {
			given := slices.Insert(slices.Clone(l), at, later)
			sameStreams(t, session.Streams(given), want)
			checkStreams(t, given)
		}
		l = append(l[1:], l[0])
	}
}

// TestManyAlike has so many plays with the same Device, ID and Second that a sorting that is not stable would mix them up.
func TestManyAlike(t *testing.T) {
	var l []api.Fact
	for i := range 2000 {
		l = append(l, with(play(1+i%3, 30*(i%7), 30000), func(f *api.Fact) { f.Account, f.Recording = i+1, 1+i%2 }))
	}
	checkStreams(t, l)
}

// TestSameIDAtOtherSeconds has plays with the same Device and ID, but at different Seconds: all of them are plays.
func TestSameIDAtOtherSeconds(t *testing.T) {
	checkSessions(t, []api.Fact{play(4, 100, 30000), play(4, 0, 30000), play(4, 50, 30000)}, [2]int{4, 1}, [2]int{4, 1}, [2]int{4, 1})
}

func TestDevices(t *testing.T) {
	var l []api.Fact
	var want []api.Stream
	for _, device := range []int{1, 2, 3, 10, 255, 256, 65536, 1000000} {
		for i, f := range []api.Fact{play(9, 0, 30000), play(8, 1801, 30000), play(7, 1831, 30000)} {
			f.Device = device
			l = append(l, f)
			want = append(want, streamOf(f, 1+min(i, 1)))
		}
	}
	r := rand.New(rand.NewSource(3))
	for range 50 {
		r.Shuffle(len(l), func(i, j int) { l[i], l[j] = l[j], l[i] })
		sameStreams(t, session.Streams(l), want)
	}
}

// TestArbitraryLists compares Streams with the chapter's definition, for lists with other facts among the plays.
func TestArbitraryLists(t *testing.T) {
	others := append(otherKinds(), invalid()...)
	lists(4, 3000, func(r *rand.Rand, l []api.Fact, distinct bool) {
		checkStreams(t, l)
		if r.Intn(4) == 0 {
			checkStreams(t, among(r, l, others))
		}
	})
}

// TestArbitraryFacts has plays of which some have an extreme number in one field.
func TestArbitraryFacts(t *testing.T) {
	r := rand.New(rand.NewSource(5))
	for range 500 {
		l := somePlays(r, r.Intn(20), 2, true)
		for i := range l {
			if all := fields(&l[i]); r.Intn(3) == 0 {
				*all[r.Intn(len(all))] = extremes[r.Intn(len(extremes))]
			}
		}
		checkStreams(t, l)
	}
}
