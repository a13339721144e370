package voyage

import (
	"slices"

	"taffrail/anew"
	"taffrail/api"
	"taffrail/change"
	"taffrail/stock"
)

// noCabin is the Cabin of a promise that has none yet.
const noCabin = -1

// purser of a sailing that is right: who turns its day, and knows who has which cabin.
type purser struct {
	api.Sailing
}

// turn the day to a later one. Ids rise, since bookings do.
func (p purser) turn(day int) (api.Sailing, []int, api.Errno) {
	p.Day = day
	var ids []int
	next, e := anew.Sailing(p.Sailing, func(next *api.Sailing) api.Errno {
		for i, b := range next.Bookings {
			if b.State == api.StateOption && b.Until < day {
				next.Bookings[i] = p.dropped(b)
				ids = append(ids, b.Id)
			}
		}
		return api.OK
	})
	if e != api.OK {
		return api.Sailing{}, nil, e
	}
	return next, ids, api.OK
}

// dropped option: it goes as it would if its guest cancelled it, but it goes, whether its folio has room for that or not.
func (p purser) dropped(b api.Booking) api.Booking {
	next, e := change.Cancel(p.Sailing, b.Id)
	if e != api.OK {
		b.State, b.Until = api.StateGone, 0
		return b
	}
	return next.Bookings[at(next.Bookings, b.Id)]
}

// settle which cabin each promise has.
func (p purser) settle() (api.Sailing, api.Errno) {
	ids, edges, e := stock.Promises(p.Sailing)
	if e != api.OK {
		return api.Sailing{}, e
	}
	return anew.Sailing(p.Sailing, func(next *api.Sailing) api.Errno {
		for _, x := range settled(len(ids), len(p.Ship.Cabins), edges) {
			next.Bookings[at(next.Bookings, ids[x.Left])].Cabin = x.Right
		}
		next.Closed = true
		return api.OK
	})
}

// plan: Ids rise, since bookings do.
func (p purser) plan() []api.Edge {
	var l []api.Edge
	for _, b := range p.Bookings {
		if b.State != api.StateGone && b.Cabin != noCabin {
			l = append(l, api.Edge{Left: b.Id, Right: b.Cabin})
		}
	}
	return l
}

// at which place the booking of an Id is, that is there.
func at(l []api.Booking, id int) int {
	return slices.IndexFunc(l, func(b api.Booking) bool { return b.Id == id })
}
