package desk

import (
	"slices"

	"taffrail/anew"
	"taffrail/api"
	"taffrail/change"
	"taffrail/folio"
	"taffrail/sell"
	"taffrail/stock"
	"taffrail/voyage"
)

// noCabin is the Cabin of a promise that has none yet.
const noCabin = -1

// clerk who does requests of a sailing that is right, in memory of its own.
type clerk struct {
	api.Sailing
}

func clerkOf(s api.Sailing) (clerk, api.Errno) {
	if e := stock.Check(s); e != api.OK {
		return clerk{}, e
	}
	return clerk{anew.Copy(s)}, api.OK
}

// do a request that is right, and answer it.
func (c *clerk) do(a api.Ask) api.Answer {
	next, e := c.asked(a)
	if e != api.OK {
		return api.Answer{Errno: e}
	}
	c.Sailing = next
	return api.Answer{Owed: c.owed(a.Id)}
}

// asked: the sailing as a request would have it.
func (c *clerk) asked(a api.Ask) (api.Sailing, api.Errno) {
	switch a.Kind {
	case api.AskNamed:
		return sell.Named(c.Sailing, c.named(a))
	case api.AskPromise:
		return sell.Promise(c.Sailing, c.promised(a))
	case api.AskSure:
		return change.Sure(c.Sailing, a.Id)
	case api.AskPay:
		return change.Pay(c.Sailing, a.Id, a.Amount)
	case api.AskCancel:
		return change.Cancel(c.Sailing, a.Id)
	case api.AskMove:
		return change.Move(c.Sailing, a.Id, a.Cabin)
	case api.AskDay:
		next, _, e := voyage.Turn(c.Sailing, a.Until)
		return next, e
	case api.AskClose:
		return voyage.Close(c.Sailing)
	}
	return api.Sailing{}, api.ErrKind
}

// named booking that a request asks for.
func (c *clerk) named(a api.Ask) api.Booking {
	return waiting(api.Booking{Id: a.Id, Kind: api.KindNamed, Guests: a.Guests, Level: a.Level, Cabin: a.Cabin, Span: a.Span}, a.Until)
}

// promised booking that a request asks for: of the whole voyage.
func (c *clerk) promised(a api.Ask) api.Booking {
	all := api.Span{To: c.Ship.Legs}
	return waiting(api.Booking{Id: a.Id, Kind: api.KindPromise, Guests: a.Guests, Level: a.Level, Cabin: noCabin, Category: a.Category, Span: all}, a.Until)
}

// waiting till a day, as an option; or sure, since on day 0 nobody waits.
func waiting(b api.Booking, until int) api.Booking {
	b.State, b.Until = api.StateOption, until
	if until == 0 {
		b.State = api.StateSure
	}
	return b
}

// owed by the booking of an Id. Requests that name none have Id 0, which no booking has.
func (c *clerk) owed(id int) int {
	at := slices.IndexFunc(c.Bookings, func(b api.Booking) bool { return b.Id == id })
	if at < 0 {
		return 0
	}
	n, _ := folio.Owed(c.Bookings[at].Folio) // which is right, since the sailing is
	return n
}
