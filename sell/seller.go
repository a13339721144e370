package sell

import (
	"cmp"
	"slices"

	"taffrail/anew"
	"taffrail/api"
	"taffrail/book"
	"taffrail/fare"
)

// noCabin is the Cabin of a promise that has none yet.
const noCabin = -1

// seller of bookings of a sailing that is right.
type seller struct {
	api.Sailing
}

func (w seller) named(b api.Booking) (api.Sailing, api.Errno) {
	if !isSold(b, api.KindNamed) {
		return api.Sailing{}, api.ErrKind
	}
	if len(b.Folio) > 0 {
		return api.Sailing{}, api.ErrForm
	}
	if e := book.Check(w.Ship, b); e != api.OK {
		return api.Sailing{}, e
	}
	if w.hasLeft() || !w.mayWait(b) {
		return api.Sailing{}, api.ErrState
	}
	return w.sell(b, w.Ship.Cabins[b.Cabin].Category)
}

func (w seller) promise(b api.Booking) (api.Sailing, api.Errno) {
	if !isSold(b, api.KindPromise) {
		return api.Sailing{}, api.ErrKind
	}
	if len(b.Folio) > 0 || b.Cabin != noCabin {
		return api.Sailing{}, api.ErrForm
	}
	if e := book.Check(w.Ship, b); e != api.OK {
		return api.Sailing{}, e
	}
	if w.hasLeft() || !w.mayWait(b) || w.Closed {
		return api.Sailing{}, api.ErrState
	}
	return w.sell(b, b.Category)
}

// offers: cabins in which a booking would be sold.
func (w seller) offers(b api.Booking) []int {
	var l []int
	for cabin := range w.Ship.Cabins {
		b.Cabin = cabin
		if _, e := w.named(b); e == api.OK {
			l = append(l, cabin)
		}
	}
	return l
}

// sell a booking that is right by itself, at the fare of a category.
func (w seller) sell(b api.Booking, category int) (api.Sailing, api.Errno) {
	at, there := w.place(b.Id)
	if there {
		return api.Sailing{}, api.ErrTwice
	}
	if w.isFull() {
		return api.Sailing{}, api.ErrMany
	}
	price, e := fare.Price(w.Fares, len(w.Ship.Categories), w.Ship.Legs, category, b.Span, b.Guests)
	if e != api.OK {
		return api.Sailing{}, e
	}
	b.Folio = []api.Entry{{Day: w.Day, Kind: api.EntryFare, Amount: price}}
	next, e := anew.Sailing(w.Sailing, func(next *api.Sailing) api.Errno {
		next.Bookings = slices.Insert(next.Bookings, at, b)
		return api.OK
	})
	if e == api.ErrMany { // there is room for a booking, so it is the guests who are too many
		e = api.ErrSpace
	}
	return next, e
}

// place where a booking of an Id belongs, and whether one is there.
func (w seller) place(id int) (int, bool) {
	return slices.BinarySearchFunc(w.Bookings, id, func(b api.Booking, id int) int { return cmp.Compare(b.Id, id) })
}

// unused: the least Id that is not there. Where there is room for a booking more, it is far from the greatest one.
func (w seller) unused() int {
	id := 1
	for _, b := range w.Bookings {
		if b.Id == id {
			id++
		}
	}
	return id
}

func (w seller) hasLeft() bool { return w.Day >= w.Leaves }

func (w seller) isFull() bool { return len(w.Bookings) >= api.MaxBookings }

// mayWait: an option is decided from this day on, ahead of that on which the sailing leaves.
func (w seller) mayWait(b api.Booking) bool {
	return b.State != api.StateOption || w.Day <= b.Until && b.Until < w.Leaves
}

func isSold(b api.Booking, kind int) bool { return b.Kind == kind && b.State != api.StateGone }
