package base

import (
	"slices"

	"royalty/api"
)

// ofPlay returns what tells the plays and marks of a device with this ID from others.
func ofPlay(device int, id int) func(api.Fact) bool {
	return func(f api.Fact) bool { return f.Device == device && f.ID == id }
}

// first returns the first fact of l that is wanted, or false if there is none.
func first(l []api.Fact, wanted func(api.Fact) bool) (api.Fact, bool) {
	at := slices.IndexFunc(l, wanted)
	if at < 0 {
		return api.Fact{}, false
	}
	return apart(l[at]), true
}

// inEffect returns the fact of l about a thing that is in effect at p, or false if there is none: of those that begin at p or before, the first one with the latest beginning.
func inEffect[T comparable](l []api.Fact, about func(api.Fact) T, thing T, p int) (api.Fact, bool) {
	latest := -1
	for at, f := range l {
		if about(f) == thing && f.From <= p && (latest < 0 || f.From > l[latest].From) {
			latest = at
		}
	}
	if latest < 0 {
		return api.Fact{}, false
	}
	return apart(l[latest]), true
}
