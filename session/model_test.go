package session_test

import (
	"math"
	"math/rand"
	"slices"
	"testing"

	"royalty/api"
	"royalty/session"
)

// extremes are numbers that a valid play does not have, or only in some fields.
var extremes = []int{math.MinInt, math.MinInt + 1, -1 << 32, -1, 0, 1, 1 << 32, math.MaxInt - 1, math.MaxInt}

// play returns a play of recording 7 on device 1.
func play(id int, second int, amount int) api.Fact {
	return api.Fact{Kind: api.FPlay, ID: id, Version: 1, Account: 2, Device: 1, Recording: 7, Second: second, Amount: amount}
}

// with returns f after a change.
func with(f api.Fact, change func(*api.Fact)) api.Fact {
	change(&f)
	return f
}

func ofDevice(device int, f api.Fact) api.Fact {
	return with(f, func(f *api.Fact) { f.Device = device })
}

func ofRecording(recording int, f api.Fact) api.Fact {
	return with(f, func(f *api.Fact) { f.Recording = recording })
}

func preview(f api.Fact) api.Fact {
	return with(f, func(f *api.Fact) { f.Mark = api.Preview })
}

// otherKinds returns valid facts of all kinds but plays.
func otherKinds() []api.Fact {
	return []api.Fact{
		{Kind: api.FMark, ID: 1, Version: 1, Device: 1, Mark: 2},
		{Kind: api.FClaim, ID: 1, Version: 1, Recording: 7, Holder: 6, Role: 2, Territory: 255, To: 1200, Share: 1000000},
		{Kind: api.FContract, Version: 1, Holder: 6, From: 3, Text: "tax 10%\n"},
		{Kind: api.FRevenue, ID: 1, Version: 1, Period: 1, Territory: 7, Amount: 60000, Currency: 20},
		{Kind: api.FSubscription, Version: 1, Account: 2, Period: 8, Amount: 60000},
		{Kind: api.FRate, Version: 1, Currency: 3, Period: 5, Amount: 60000},
		{Kind: api.FAdvance, ID: 1, Version: 1, Account: 2, Period: 8, Amount: 60000},
		{Kind: api.FRules, Version: 1, From: 7, Text: "x"},
		{Kind: api.FMethod, Version: 1, Territory: 7, From: 3, Mark: 1},
	}
}

// fields returns pointers to all numbers of f.
func fields(f *api.Fact) []*int {
	return []*int{&f.Kind, &f.ID, &f.Version, &f.Period, &f.Second, &f.Account, &f.Device, &f.Recording, &f.Territory, &f.Holder, &f.Role, &f.From, &f.To, &f.Amount, &f.Share, &f.Currency, &f.Mark}
}

// invalid returns facts that are no valid plays: what becomes of a play that would count, and of the other kinds' facts, if one of the fields is outside its range or not empty.
func invalid() []api.Fact {
	all := []api.Fact{{}}
	for _, f := range append(otherKinds(), play(1, 5, 60000)) {
		all = append(all, with(f, func(f *api.Fact) { f.Kind = 0 }), with(f, func(f *api.Fact) { f.Kind = 11 }), with(f, func(f *api.Fact) { f.Kind = -1 }))
		if f.Kind != api.FPlay {
			all = append(all, with(f, func(f *api.Fact) { f.Kind = api.FPlay }))
		}
		for i := range fields(&f) {
			all = append(all, with(f, func(f *api.Fact) { *fields(f)[i] = math.MinInt }), with(f, func(f *api.Fact) { *fields(f)[i] = math.MaxInt }))
		}
	}
	f := play(1, 5, 60000)
	return append(all,
		with(f, func(f *api.Fact) { f.ID = 0 }),
		with(f, func(f *api.Fact) { f.ID = 1000001 }),
		with(f, func(f *api.Fact) { f.Version = 0 }),
		with(f, func(f *api.Fact) { f.Version = 1001 }),
		with(f, func(f *api.Fact) { f.Account = 0 }),
		with(f, func(f *api.Fact) { f.Account = 1000001 }),
		with(f, func(f *api.Fact) { f.Device = 0 }),
		with(f, func(f *api.Fact) { f.Device = 1000001 }),
		with(f, func(f *api.Fact) { f.Recording = 0 }),
		with(f, func(f *api.Fact) { f.Recording = 1000001 }),
		with(f, func(f *api.Fact) { f.Territory = -1 }),
		with(f, func(f *api.Fact) { f.Territory = 8 }),
		with(f, func(f *api.Fact) { f.Second = -1 }),
		with(f, func(f *api.Fact) { f.Second = 3155760000 }),
		with(f, func(f *api.Fact) { f.Amount = 86400001 }),
		with(f, func(f *api.Fact) { f.Mark = 2 }),
		with(f, func(f *api.Fact) { f.Mark = -1 }),
		with(f, func(f *api.Fact) { f.Period = 1 }),
		with(f, func(f *api.Fact) { f.Holder = 1 }),
		with(f, func(f *api.Fact) { f.From = 1 }),
		with(f, func(f *api.Fact) { f.Currency = 1 }),
		with(f, func(f *api.Fact) { f.Text = "a" }),
	)
}

// isPlay is the chapter's table for plays, written out.
func isPlay(f api.Fact) bool {
	rest := f
	for _, n := range []*int{&rest.Kind, &rest.ID, &rest.Version, &rest.Account, &rest.Device, &rest.Recording, &rest.Territory, &rest.Second, &rest.Amount, &rest.Mark} {
		*n = 0
	}
	isID := func(n int) bool { return 1 <= n && n <= 1000000 }
	return rest == api.Fact{} && f.Kind == 1 && 1 <= f.Version && f.Version <= 1000 &&
		isID(f.ID) && isID(f.Account) && isID(f.Device) && isID(f.Recording) &&
		0 <= f.Territory && f.Territory <= 7 && 0 <= f.Second && f.Second <= 3155759999 &&
		0 <= f.Amount && f.Amount <= 86400000 && (f.Mark == 0 || f.Mark == 1)
}

// qualifies reports whether a play is long enough and no preview.
func qualifies(f api.Fact) bool {
	return f.Amount >= 30000 && f.Mark == 0
}

// end returns the end of a play: the first second that is at least Amount milliseconds after the play's Second.
func end(f api.Fact) int {
	s := f.Second + f.Amount/1000
	if (s-f.Second)*1000 < f.Amount {
		s++
	}
	return s
}

// ordered returns the indexes in l of the plays of a device, in the order of the plays: each one is put behind all those that are not after it.
func ordered(l []api.Fact, device int) []int {
	var order []int
	for i, f := range l {
		if !isPlay(f) || f.Device != device {
			continue
		}
		at := len(order)
		for at > 0 && (l[order[at-1]].Second > f.Second || l[order[at-1]].Second == f.Second && l[order[at-1]].ID > f.ID) {
			at--
		}
		order = slices.Insert(order, at, i)
	}
	return order
}

// sessionsOf returns the numbers of the sessions of plays that are in their order.
func sessionsOf(plays []api.Fact) []int {
	var numbers []int
	for i, f := range plays {
		switch {
		case i == 0:
			numbers = append(numbers, 1)
		case f.Second <= plays[i-1].Second+1800:
			numbers = append(numbers, numbers[i-1])
		default:
			numbers = append(numbers, numbers[i-1]+1)
		}
	}
	return numbers
}

// monthOf returns the period of a second: months are counted off, one after the other.
func monthOf(second int) int {
	p := 0
	for {
		days := 31
		switch p % 12 {
		case 3, 5, 8, 10:
			days = 30
		case 1:
			days = 28
			if p/12%4 == 0 {
				days = 29
			}
		}
		if second < days*86400 {
			return p
		}
		second -= days * 86400
		p++
	}
}

// devicesOf returns the devices of the plays of l, ascending.
func devicesOf(l []api.Fact) []int {
	var devices []int
	for _, f := range l {
		if isPlay(f) {
			devices = append(devices, f.Device)
		}
	}
	slices.Sort(devices)
	return slices.Compact(devices)
}

// judged is a play of a device, with the number of its session, and whether it counts.
type judged struct {
	index   int // in the list that was given
	fact    api.Fact
	session int
	counts  bool
}

// judge returns the plays of a device in their order, as the chapter defines which ones count.
func judge(l []api.Fact, device int) []judged {
	order := ordered(l, device)
	var plays []api.Fact
	for _, i := range order {
		plays = append(plays, l[i])
	}
	numbers := sessionsOf(plays)
	var all []judged
	for i, f := range plays {
		one := judged{order[i], f, numbers[i], qualifies(f)}
		same, last := 0, 0
		for _, before := range all {
			if before.counts {
				last = end(before.fact)
			}
			if before.counts && before.session == one.session && before.fact.Recording == f.Recording {
				same++
			}
		}
		if f.Second < last || same >= 5 {
			one.counts = false
		}
		all = append(all, one)
	}
	return all
}

// streamOf returns the stream of a play that counts.
func streamOf(f api.Fact, number int) api.Stream {
	return api.Stream{Device: f.Device, ID: f.ID, Account: f.Account, Recording: f.Recording, Territory: f.Territory, Second: f.Second, Period: monthOf(f.Second), Session: number, Mark: 1}
}

// wantStreams is what Streams returns for l.
func wantStreams(l []api.Fact) []api.Stream {
	var streams []api.Stream
	for _, device := range devicesOf(l) {
		for _, one := range judge(l, device) {
			if one.counts {
				streams = append(streams, streamOf(one.fact, one.session))
			}
		}
	}
	return streams
}

// sameStreams compares two lists, and reports the first difference.
func sameStreams(t *testing.T, got []api.Stream, want []api.Stream) {
	t.Helper()
	if slices.Equal(got, want) {
		return
	}
	for i := range min(len(got), len(want)) {
		if got[i] != want[i] {
			t.Errorf("stream %d is %+v, want %+v", i, got[i], want[i])
			return
		}
	}
	t.Errorf("%d streams, want %d", len(got), len(want))
}

// checkStreams compares Streams with the chapter's definition.
func checkStreams(t *testing.T, l []api.Fact) {
	t.Helper()
	sameStreams(t, session.Streams(l), wantStreams(l))
}

// checkSessions compares the IDs and Sessions of the streams of l with pairs.
func checkSessions(t *testing.T, l []api.Fact, want ...[2]int) {
	t.Helper()
	got := [][2]int{}
	for _, s := range session.Streams(l) {
		got = append(got, [2]int{s.ID, s.Session})
	}
	if !slices.Equal(got, want) {
		t.Errorf("streams (ID, Session) %v, want %v", got, want)
	}
	checkStreams(t, l)
}

// steps are differences between the Seconds of two plays: near the ends of plays, and near Pause.
var steps = []int{0, 0, 1, 29, 30, 31, 59, 60, 61, 100, 600, 1799, 1800, 1801, 3600, 86399, 86400, 86401, 2678400}

// amounts are times listened: short ones, and some that are rounded up.
var amounts = []int{0, 1, 29999, 30000, 30000, 30001, 59999, 60000, 60001, 61000, 86400000}

// somePlays returns n plays on some devices. Their accounts tell them apart: the one at the index i is of account i+1. Their IDs are different if distinct.
func somePlays(r *rand.Rand, n int, devices int, distinct bool) []api.Fact {
	ids := r.Perm(n)
	second := r.Intn(2) * r.Intn(2600000)
	var l []api.Fact
	for i := range n {
		f := play(ids[i]+1, second, amounts[r.Intn(len(amounts))])
		if !distinct {
			f.ID = 1 + r.Intn(3)
		}
		f.Account, f.Device, f.Recording, f.Territory = i+1, 1+r.Intn(devices), 1+r.Intn(2), r.Intn(8)
		if r.Intn(8) == 0 {
			f.Mark = api.Preview
		}
		l = append(l, f)
		second = min(second+steps[r.Intn(1+r.Intn(len(steps)))], 3155759999)
	}
	return l
}

// shuffled returns plays in another order, with the accounts of their new places.
func shuffled(r *rand.Rand, l []api.Fact) []api.Fact {
	l = slices.Clone(l)
	r.Shuffle(len(l), func(i, j int) { l[i], l[j] = l[j], l[i] })
	for i := range l {
		l[i].Account = i + 1
	}
	return l
}

// lists calls check with lists of plays on some devices, in any order, with different IDs and with few ones.
func lists(seed int64, n int, check func(r *rand.Rand, l []api.Fact, distinct bool)) {
	r := rand.New(rand.NewSource(seed))
	for i := range n {
		distinct := i%2 == 0
		check(r, shuffled(r, somePlays(r, r.Intn(40), 1+r.Intn(3), distinct)), distinct)
	}
}

// among returns l with other facts, that are no plays, in between.
func among(r *rand.Rand, l []api.Fact, others []api.Fact) []api.Fact {
	var mixed []api.Fact
	for _, f := range l {
		for range r.Intn(3) {
			mixed = append(mixed, others[r.Intn(len(others))])
		}
		mixed = append(mixed, f)
	}
	return append(mixed, others[r.Intn(len(others))])
}
