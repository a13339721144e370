package book

import (
	"taffrail/api"
	"taffrail/folio"
	"taffrail/ship"
	"taffrail/span"
)

// noCabin is the Cabin of a promise that has none yet.
const noCabin = -1

// checkAll: a ship, then bookings of it, one by one.
func checkAll(s api.Ship, l []api.Booking) api.Errno {
	if e := ship.Check(s); e != api.OK {
		return e
	}
	for _, b := range l {
		if e := checkOn(s, b); e != api.OK {
			return e
		}
	}
	return api.OK
}

// checkOn is Check of a booking on a ship that was checked: of many bookings, it is so but once.
func checkOn(s api.Ship, b api.Booking) api.Errno {
	if !within(b.Kind, api.KindNamed, api.KindPromise) || !within(b.State, api.StateOption, api.StateGone) {
		return api.ErrKind
	}
	if !within(b.Id, 1, api.MaxId) || !within(b.Guests, 1, api.MaxBerths) {
		return api.ErrRange
	}
	if e := span.Check(b.Span, s.Legs); e != api.OK {
		return e
	}
	if e := checkKind(s, b); e != api.OK {
		return e
	}
	if !within(b.Until, 0, api.MaxDay) {
		return api.ErrRange
	}
	if b.Until != 0 && b.State != api.StateOption {
		return api.ErrForm
	}
	return folio.Check(b.Folio)
}

// checkKind: what is asked of one kind of bookings alone.
func checkKind(s api.Ship, b api.Booking) api.Errno {
	if b.Kind == api.KindNamed {
		return checkNamed(s, b)
	}
	return checkPromise(s, b)
}

func checkNamed(s api.Ship, b api.Booking) api.Errno {
	if !isCabin(s, b.Cabin) {
		return api.ErrRange
	}
	if b.Category != 0 {
		return api.ErrForm
	}
	if !suits(s.Cabins[b.Cabin], b) {
		return api.ErrState
	}
	return api.OK
}

func checkPromise(s api.Ship, b api.Booking) api.Errno {
	if !within(b.Category, 0, len(s.Categories)-1) {
		return api.ErrRange
	}
	if b.Span != (api.Span{To: s.Legs}) {
		return api.ErrState
	}
	if b.Cabin == noCabin {
		return api.OK
	}
	if !isCabin(s, b.Cabin) {
		return api.ErrRange
	}
	return checkEligible(s, b)
}

// checkEligible: a promise that has a cabin which is there.
func checkEligible(s api.Ship, b api.Booking) api.Errno {
	c := s.Cabins[b.Cabin]
	serves, e := ship.Serves(s, c.Category, b.Category)
	if e != api.OK {
		return e
	}
	if !serves || !suits(c, b) {
		return api.ErrState
	}
	return api.OK
}

// suits: is a cabin for a booking's guests, whatever its category is?
func suits(c api.Cabin, b api.Booking) bool {
	return c.Berths >= b.Guests && (c.Level || !b.Level)
}

func isCabin(s api.Ship, cabin int) bool { return within(cabin, 0, len(s.Cabins)-1) }

// within: is x from least to most?
func within(x, least, most int) bool { return least <= x && x <= most }
