package stock

import (
	"slices"

	"taffrail/api"
	"taffrail/book"
	"taffrail/match"
)

// noCabin is the Cabin of a promise that has none yet.
const noCabin = -1

// checkMatched: can all open promises be kept, each by a cabin of its own?
func checkMatched(s api.Sailing) api.Errno {
	l := open(s)
	lack, e := match.Lack(len(l), len(s.Ship.Cabins), edges(s, l))
	if e != api.OK {
		return e
	}
	if len(lack) > 0 {
		return api.ErrFull
	}
	return api.OK
}

// open promises: live, and without a cabin. They rise by Id, since all bookings do.
func open(s api.Sailing) []api.Booking {
	return those(s.Bookings, func(b api.Booking) bool { return isLivePromise(b) && !hasCabin(b) })
}

// edges from each of some promises to each cabin that may keep it.
func edges(s api.Sailing, l []api.Booking) []api.Edge {
	var out []api.Edge
	cabins := untouched(s)
	for i, b := range l {
		for _, cabin := range cabins {
			if mayHave(s.Ship, b, cabin) {
				out = append(out, api.Edge{Left: i, Right: cabin})
			}
		}
	}
	return out
}

// untouched: cabins that no live booking has on any leg.
func untouched(s api.Sailing) []int {
	var l []int
	for cabin := range s.Ship.Cabins {
		if !slices.ContainsFunc(s.Bookings, func(b api.Booking) bool { return isLive(b) && b.Cabin == cabin }) {
			l = append(l, cabin)
		}
	}
	return l
}

// mayHave: is a cabin eligible for a promise? Just then the promise, which was right without it, is right with it.
func mayHave(s api.Ship, b api.Booking, cabin int) bool {
	b.Cabin = cabin
	return book.Check(s, b) == api.OK
}

// those: the bookings that count, in their order, in a list of their own.
func those(l []api.Booking, counts func(api.Booking) bool) []api.Booking {
	var out []api.Booking
	for _, b := range l {
		if counts(b) {
			out = append(out, b)
		}
	}
	return out
}

func isLive(b api.Booking) bool { return b.State != api.StateGone }

func isLivePromise(b api.Booking) bool { return isLive(b) && b.Kind == api.KindPromise }

func hasCabin(b api.Booking) bool { return b.Cabin != noCabin }
