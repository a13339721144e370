package stock

import (
	"slices"

	"taffrail/api"
	"taffrail/book"
	"taffrail/fare"
	"taffrail/ship"
)

// checkFrame: what is to be seen ahead of any booking.
func checkFrame(s api.Sailing) api.Errno {
	if e := ship.Check(s.Ship); e != api.OK {
		return e
	}
	if e := fare.Check(s.Fares, len(s.Ship.Categories), s.Ship.Legs); e != api.OK {
		return e
	}
	if !isDay(s.Day) || !isDay(s.Leaves) {
		return api.ErrRange
	}
	if len(s.Bookings) > api.MaxBookings {
		return api.ErrMany
	}
	return api.OK
}

// checkBookings goes booking by booking: the first of which something is wrong tells.
func checkBookings(s api.Sailing) api.Errno {
	ahead := 0 // any Id that is right is more
	for _, b := range s.Bookings {
		if e := book.Check(s.Ship, b); e != api.OK {
			return e
		}
		if b.Id <= ahead {
			return api.ErrState
		}
		ahead = b.Id
	}
	return api.OK
}

// checkClosed speaks of the sailing, not of one booking, so it comes behind what is wrong with any of them.
func checkClosed(s api.Sailing) api.Errno {
	if slices.ContainsFunc(s.Bookings, func(b api.Booking) bool { return isLivePromise(b) && hasCabin(b) != s.Closed }) {
		return api.ErrState
	}
	return api.OK
}

// checkRoom: cabins that two would have at once, then more guests than may be on board.
func checkRoom(s api.Sailing) api.Errno {
	for cabin := range s.Ship.Cabins {
		if _, e := book.Spans(s.Ship, s.Bookings, cabin); e != api.OK {
			return e
		}
	}
	on, e := book.Souls(s.Ship, s.Bookings)
	if e != api.OK {
		return e
	}
	if slices.ContainsFunc(on, func(n int) bool { return n > s.Ship.Souls }) {
		return api.ErrMany
	}
	return api.OK
}

func isDay(n int) bool { return 0 <= n && n <= api.MaxDay }
