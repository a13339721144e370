package desk_test

import (
	"math/rand/v2"
	"testing"

	"taffrail/api"
	"taffrail/change"
	"taffrail/desk"
	"taffrail/sell"
	"taffrail/voyage"
)

// drawnAsk is mostly one that might be done.
func drawnAsk(r *rand.Rand, s api.Sailing, number int) api.Ask {
	id := 1 + r.IntN(40)
	if n := len(s.Bookings); n > 0 && r.IntN(5) > 0 {
		id = s.Bookings[r.IntN(n)].Id
	}
	until := r.IntN(2) * (s.Day + r.IntN(9))
	switch n := r.IntN(24); {
	case n < 7:
		from := r.IntN(3)
		a := askNamed(number, 1+r.IntN(3), 1+r.IntN(40), r.IntN(4), from, from+1+r.IntN(3-from), until)
		a.Level = r.IntN(6) == 0
		return a
	case n < 12:
		a := askPromise(number, 1+r.IntN(3), 1+r.IntN(40), r.IntN(3), until)
		a.Level = r.IntN(6) == 0
		return a
	case n < 14:
		return askSure(number, id)
	case n < 17:
		return askPay(number, id, 1+r.IntN(150))
	case n < 19:
		return askCancel(number, id)
	case n < 21:
		return askMove(number, id, r.IntN(5))
	case n < 23:
		return askDay(number, s.Day+r.IntN(6))
	}
	return askClose(number * r.IntN(2))
}

// through: some sailings with what was asked of them, one by one, and what came.
func through(t *testing.T, seed uint64, sailings, asks int, see func(s api.Sailing, a api.Ask, next api.Sailing, answer api.Answer)) {
	t.Helper()
	r := rand.New(rand.NewPCG(seed, 7))
	for range sailings {
		s := on(r.IntN(20), packet())
		for n := range asks {
			a := drawnAsk(r, s, 1+n)
			if a.Number == 0 {
				continue
			}
			next, answer, e := desk.Do(s, a)
			if e != api.OK {
				t.Fatalf("%v is wrong: %d", a, e)
			}
			see(s, a, next, answer)
			if t.Failed() {
				return
			}
			s = next
		}
	}
}

// toldBooking that a request asks for, by the words of the document.
func toldBooking(s api.Sailing, a api.Ask) api.Booking {
	b := api.Booking{Id: a.Id, Kind: api.KindNamed, State: api.StateSure, Guests: a.Guests, Level: a.Level, Cabin: a.Cabin, Category: a.Category, Span: a.Span, Until: a.Until}
	if a.Kind == api.AskPromise {
		b.Kind, b.Cabin, b.Span = api.KindPromise, none, api.Span{From: 0, To: s.Ship.Legs}
	}
	if a.Until != 0 {
		b.State = api.StateOption
	}
	return b
}

// told by the words of the document: the sailing and the answer behind a request that is right.
func told(s api.Sailing, a api.Ask) (api.Sailing, api.Answer) {
	var next api.Sailing
	var e api.Errno
	switch a.Kind {
	case api.AskNamed:
		next, e = sell.Named(s, toldBooking(s, a))
	case api.AskPromise:
		next, e = sell.Promise(s, toldBooking(s, a))
	case api.AskDay:
		next, _, e = voyage.Turn(s, a.Until)
	case api.AskClose:
		next, e = voyage.Close(s)
	default:
		next, e = toldChange(s, a)
	}
	if e != api.OK {
		return s, api.Answer{Errno: e}
	}
	owed := 0
	for _, b := range next.Bookings {
		for _, x := range b.Folio {
			if b.Id == a.Id && a.Kind != api.AskDay && a.Kind != api.AskClose {
				owed += x.Amount
			}
		}
	}
	return next, api.Answer{Owed: owed}
}

// toldChange of a booking that is there.
func toldChange(s api.Sailing, a api.Ask) (api.Sailing, api.Errno) {
	switch a.Kind {
	case api.AskSure:
		return change.Sure(s, a.Id)
	case api.AskPay:
		return change.Pay(s, a.Id, a.Amount)
	case api.AskCancel:
		return change.Cancel(s, a.Id)
	}
	return change.Move(s, a.Id, a.Cabin)
}

// TestM1Some: some thousand requests are done as the chapters ahead say.
func TestM1Some(t *testing.T) {
	kinds, errnos := map[int]int{}, map[api.Errno]int{}
	through(t, 1, 120, 40, func(s api.Sailing, a api.Ask, next api.Sailing, answer api.Answer) {
		want, said := told(s, a)
		if !same(next, want) || answer != said {
			t.Errorf("%v, %v: %v, %v, not %v, %v", s, a, next, answer, want, said)
		}
		errnos[answer.Errno]++
		if answer.Errno == api.OK {
			kinds[a.Kind]++
		}
	})
	for kind := api.AskNamed; kind <= api.AskClose; kind++ {
		if kinds[kind] < 20 {
			t.Errorf("%d was done %d times alone", kind, kinds[kind])
		}
	}
	for _, e := range []api.Errno{api.ErrState, api.ErrNone, api.ErrTwice, api.ErrRange, api.ErrSpace, api.ErrFull} {
		if errnos[e] < 10 {
			t.Errorf("%d was told %d times alone", e, errnos[e])
		}
	}
}
