package session

import (
	"iter"
	"maps"
	"slices"

	"royalty/api"
)

// devices visits the devices on which there are plays among facts, in ascending order: the plays of each, in their order.
func devices(facts []api.Fact) iter.Seq[[]play] {
	return func(yield func([]play) bool) {
		plays := byDevice(facts)
		for _, device := range slices.Sorted(maps.Keys(plays)) {
			slices.SortStableFunc(plays[device], order)
			if !yield(plays[device]) {
				return
			}
		}
	}
}

// byDevice returns the plays among facts by their devices, as they come.
func byDevice(facts []api.Fact) map[int][]play {
	plays := map[int][]play{}
	for _, f := range facts {
		if isPlay(f) {
			plays[f.Device] = append(plays[f.Device], play{f})
		}
	}
	return plays
}

// sessions visits the plays of a device, each in its session.
func sessions(plays []play) iter.Seq[placed] {
	return func(yield func(placed) bool) {
		session := 1
		for i, p := range plays {
			if i > 0 && p.Second-plays[i-1].Second > api.Pause {
				session++
			}
			if !yield(placed{p, session}) {
				return
			}
		}
	}
}

// counting returns the streams of the plays of a device that count.
func counting(plays []play) []api.Stream {
	var streams []api.Stream
	session := 0           // of the last play that was looked at
	end := 0               // of the last play that counted
	loops := map[int]int{} // how many plays of a recording counted in the session
	reasons := []func(placed) bool{
		func(p placed) bool { return !p.qualifies() },
		func(p placed) bool { return p.Second < end },
		func(p placed) bool { return loops[p.Recording] >= api.MaxLoops },
	}
next:
	for p := range sessions(plays) {
		if p.session != session {
			session = p.session
			clear(loops)
		}
		for _, against := range reasons {
			if against(p) {
				continue next
			}
		}
		end = p.end()
		loops[p.Recording]++
		streams = append(streams, p.stream())
	}
	return streams
}
