package session

import (
	"cmp"

	"royalty/api"
	"royalty/fact"
	"royalty/period"
)

// play is a valid fact of the kind FPlay.
type play struct {
	api.Fact
}

// placed is a play in a session of its device.
type placed struct {
	play
	session int
}

// isPlay reports whether f is a play.
func isPlay(f api.Fact) bool {
	return f.Kind == api.FPlay && fact.Valid(f)
}

// order compares two plays of a device, as slices.SortStableFunc asks for it.
func order(a play, b play) int {
	return cmp.Or(cmp.Compare(a.Second, b.Second), cmp.Compare(a.ID, b.ID))
}

// end returns the second at which p is over. A second that has begun is a part of the play.
func (p play) end() int {
	return p.Second + (p.Amount+999)/1000
}

// qualifies reports whether p is long enough, and no preview.
func (p play) qualifies() bool {
	return p.Amount >= api.MinListened && p.Mark == 0
}

// stream returns the stream that p is if it counts.
func (p placed) stream() api.Stream {
	in, _, _ := period.Of(p.Second)
	return api.Stream{
		Device:    p.Device,
		ID:        p.ID,
		Account:   p.Account,
		Recording: p.Recording,
		Territory: p.Territory,
		Second:    p.Second,
		Period:    in,
		Session:   p.session,
		Mark:      api.Valid,
	}
}
