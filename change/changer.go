package change

import (
	"slices"

	"taffrail/anew"
	"taffrail/api"
	"taffrail/fare"
	"taffrail/stock"
)

// changer of one booking of a sailing.
type changer struct {
	api.Sailing
}

// change the live booking of an Id, as a function says. Whether cabins and promises still come out is asked of the sailing that comes.
func (c changer) change(id int, how func(b *api.Booking) api.Errno) (api.Sailing, api.Errno) {
	if e := stock.Check(c.Sailing); e != api.OK {
		return api.Sailing{}, e
	}
	at := slices.IndexFunc(c.Bookings, func(b api.Booking) bool { return b.Id == id && b.State != api.StateGone })
	if at < 0 {
		return api.Sailing{}, api.ErrNone
	}
	return anew.Sailing(c.Sailing, func(next *api.Sailing) api.Errno { return how(&next.Bookings[at]) })
}

// penalty of a booking that is cancelled on the day; an option owes none.
func (c changer) penalty(b api.Booking) (int, api.Errno) {
	if b.State == api.StateOption {
		return 0, api.OK
	}
	return fare.Penalty(c.Fares, len(c.Ship.Categories), c.Ship.Legs, max(0, fares(b.Folio)), max(0, c.Leaves-c.Day))
}

// fares of a folio that were not taken back.
func fares(l []api.Entry) int {
	n := 0
	for _, x := range l {
		if x.Kind == api.EntryFare || x.Kind == api.EntryBack {
			n += x.Amount
		}
	}
	return n
}
