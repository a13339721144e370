package book_test

import (
	"math"
	"testing"

	"taffrail/api"
	"taffrail/book"
)

// liner is a ship that is right; each call makes it anew, so that a test may spoil it.
func liner() api.Ship {
	return api.Ship{
		Legs:  4,
		Souls: 14,
		Categories: []api.Category{
			{Name: "IN", Higher: []int{1, 2}},
			{Name: "OUT", Higher: []int{3}},
			{Name: "BALC", Higher: []int{3}},
			{Name: "SUITE"},
		},
		Cabins: []api.Cabin{
			{Name: "A1", Berths: 2},
			{Name: "A2", Berths: 4},
			{Name: "B1", Category: 1, Berths: 3, Level: true},
			{Name: "C1", Category: 2, Berths: 1},
			{Name: "D1", Category: 3, Berths: 4, Level: true},
		},
	}
}

// named booking, sure.
func named(id, cabin, guests, from, to int) api.Booking {
	return api.Booking{Id: id, Kind: api.KindNamed, State: api.StateSure, Guests: guests, Cabin: cabin, Span: api.Span{From: from, To: to}}
}

// promise that has no cabin yet, sure.
func promise(id, category, guests int) api.Booking {
	return api.Booking{Id: id, Kind: api.KindPromise, State: api.StateSure, Guests: guests, Cabin: -1, Category: category, Span: api.Span{To: 4}}
}

// but: a booking of which something is otherwise.
func but(b api.Booking, do func(b *api.Booking)) api.Booking {
	do(&b)
	return b
}

func gone(b api.Booking) api.Booking {
	return but(b, func(b *api.Booking) { b.State = api.StateGone })
}

// wants: that Check tells an error, and so do all calls with it, wherever the booking stands; and nothing else. It is told ahead of a cabin that is not there.
func wants(t *testing.T, what string, s api.Ship, b api.Booking, want api.Errno) {
	t.Helper()
	if e := book.Check(s, b); e != want {
		t.Errorf("%s: Check(%v) = %d, not %d", what, b, e, want)
	}
	if want == api.OK {
		return
	}
	right, worse := gone(named(7, 0, 1, 0, 1)), api.Booking{Kind: 1, State: 1}
	for _, l := range [][]api.Booking{{b}, {right, b}, {b, right}, {right, b, worse}} {
		for _, cabin := range []int{-1, 0, 99} {
			if spans, e := book.Spans(s, l, cabin); spans != nil || e != want {
				t.Errorf("%s: Spans(%v, %d) = %v, %d, not %d", what, l, cabin, spans, e, want)
			}
		}
		if on, e := book.Souls(s, l); on != nil || e != want {
			t.Errorf("%s: Souls(%v) = %v, %d, not %d", what, l, on, e, want)
		}
	}
}

// asked: a ship, and a booking of it.
type asked struct {
	api.Ship
	api.Booking
}

type fault struct {
	name string
	do   func(a *asked)
	want api.Errno
}

// wantsFaults: faults in the order in which the document names them, one by one and in twos: the one ahead is told, and made last, so that it is there whatever the other one made.
func wantsFaults(t *testing.T, right func() asked, l []fault) {
	a := right()
	wants(t, "right", a.Ship, a.Booking, api.OK)
	for i, x := range l {
		a := right()
		x.do(&a)
		wants(t, x.name, a.Ship, a.Booking, x.want)
		for _, y := range l[i+1:] {
			a := right()
			y.do(&a)
			x.do(&a)
			wants(t, x.name+" and "+y.name, a.Ship, a.Booking, x.want)
		}
	}
}

// faultsAhead of both kinds.
func faultsAhead() []fault {
	return []fault{
		{"no souls", func(a *asked) { a.Souls = 0 }, api.ErrRange},
		{"no cabins", func(a *asked) { a.Cabins = nil }, api.ErrNone},
		{"cabin's name", func(a *asked) { a.Cabins[4].Name = "d1" }, api.ErrForm},
		{"kind 0", func(a *asked) { a.Kind = 0 }, api.ErrKind},
		{"kind 3", func(a *asked) { a.Kind = 3 }, api.ErrKind},
		{"least kind", func(a *asked) { a.Kind = math.MinInt }, api.ErrKind},
		{"state 0", func(a *asked) { a.State = 0 }, api.ErrKind},
		{"state 4", func(a *asked) { a.State = 4 }, api.ErrKind},
		{"greatest state", func(a *asked) { a.State = math.MaxInt }, api.ErrKind},
		{"id 0", func(a *asked) { a.Id = 0 }, api.ErrRange},
		{"great id", func(a *asked) { a.Id = 1000000 }, api.ErrRange},
		{"least id", func(a *asked) { a.Id = math.MinInt }, api.ErrRange},
		{"no guests", func(a *asked) { a.Guests = 0 }, api.ErrRange},
		{"many guests", func(a *asked) { a.Guests = 5 }, api.ErrRange},
		{"greatest guests", func(a *asked) { a.Guests = math.MaxInt }, api.ErrRange},
		{"from below 0", func(a *asked) { a.Span = api.Span{From: -1, To: 4} }, api.ErrRange},
		{"behind the last leg", func(a *asked) { a.Span = api.Span{From: 0, To: 5} }, api.ErrRange},
		{"far span", func(a *asked) { a.Span = api.Span{From: math.MinInt, To: math.MaxInt} }, api.ErrRange},
		{"no leg", func(a *asked) { a.Span = api.Span{From: 2, To: 2} }, api.ErrState},
		{"back", func(a *asked) { a.Span = api.Span{From: 3, To: 1} }, api.ErrState},
	}
}

// faultsBehind: of both kinds, again, of a booking that is an option.
func faultsBehind() []fault {
	return []fault{
		{"until below 0", func(a *asked) { a.Until = -1 }, api.ErrRange},
		{"late until", func(a *asked) { a.Until = 10000 }, api.ErrRange},
		{"least until", func(a *asked) { a.Until = math.MinInt }, api.ErrRange},
		{"until of a sure one", func(a *asked) { a.State = api.StateSure }, api.ErrForm},
		{"until of one that is gone", func(a *asked) { a.State = api.StateGone }, api.ErrForm},
		{"many entries", func(a *asked) { a.Folio = make([]api.Entry, 13) }, api.ErrMany},
		{"an entry's kind", func(a *asked) { a.Folio = []api.Entry{{Kind: 1}, {Kind: 5}} }, api.ErrKind},
		{"an entry's day", func(a *asked) { a.Folio = []api.Entry{{Kind: 1, Day: 10000}} }, api.ErrRange},
		{"an entry's amount", func(a *asked) { a.Folio = []api.Entry{{Kind: 2, Amount: 1}} }, api.ErrState},
	}
}

// TestG1Named: cabin 0 is for two, and not level.
func TestG1Named(t *testing.T) {
	right := func() asked {
		b := named(10, 0, 2, 1, 3)
		b.State, b.Until, b.Folio = api.StateOption, 9, []api.Entry{{Day: 3, Kind: 1, Amount: 100}}
		return asked{liner(), b}
	}
	l := append(faultsAhead(), []fault{
		{"no cabin", func(a *asked) { a.Cabin = -1 }, api.ErrRange},
		{"cabin below", func(a *asked) { a.Cabin = -2 }, api.ErrRange},
		{"no such cabin", func(a *asked) { a.Cabin = 5 }, api.ErrRange},
		{"greatest cabin", func(a *asked) { a.Cabin = math.MaxInt }, api.ErrRange},
		{"a category", func(a *asked) { a.Category = 1 }, api.ErrForm},
		{"no such category", func(a *asked) { a.Category = 9 }, api.ErrForm},
		{"category below 0", func(a *asked) { a.Category = -1 }, api.ErrForm},
		{"fewer berths", func(a *asked) { a.Guests = 3 }, api.ErrState},
		{"far fewer berths", func(a *asked) { a.Guests = 4 }, api.ErrState},
		{"not level", func(a *asked) { a.Level = true }, api.ErrState},
	}...)
	wantsFaults(t, right, append(l, faultsBehind()...))
}

// TestG1Promise: cabin 2 serves categories 0 and 1, is for three, and level.
func TestG1Promise(t *testing.T) {
	right := func() asked {
		b := promise(10, 0, 2)
		b.State, b.Until, b.Folio, b.Cabin, b.Level = api.StateOption, 9, []api.Entry{{Day: 3, Kind: 1, Amount: 100}}, 2, true
		return asked{liner(), b}
	}
	l := append(faultsAhead(), []fault{
		{"category below 0", func(a *asked) { a.Category = -1 }, api.ErrRange},
		{"no such category", func(a *asked) { a.Category = 4 }, api.ErrRange},
		{"greatest category", func(a *asked) { a.Category = math.MaxInt }, api.ErrRange},
		{"not the last leg", func(a *asked) { a.Span = api.Span{From: 0, To: 3} }, api.ErrState},
		{"not the first leg", func(a *asked) { a.Span = api.Span{From: 1, To: 4} }, api.ErrState},
		{"cabin below", func(a *asked) { a.Cabin = -2 }, api.ErrRange},
		{"no such cabin", func(a *asked) { a.Cabin = 5 }, api.ErrRange},
		{"least cabin", func(a *asked) { a.Cabin = math.MinInt }, api.ErrRange},
		{"cabin beside", func(a *asked) { a.Category = 2 }, api.ErrState},
		{"lower cabin", func(a *asked) { a.Category = 3 }, api.ErrState},
		{"fewer berths", func(a *asked) { a.Guests = 4 }, api.ErrState},
		{"not level", func(a *asked) { a.Cabin = 1 }, api.ErrState},
	}...)
	wantsFaults(t, right, append(l, faultsBehind()...))
}

// TestG1Open: a promise without a cabin may be of any category, for as many guests as a booking may have, and level, whichever cabins there are.
func TestG1Open(t *testing.T) {
	s := liner()
	s.Cabins = s.Cabins[3:4]
	for category := range 4 {
		for guests := 1; guests <= 4; guests++ {
			b := promise(1, category, guests)
			wants(t, "open", s, b, api.OK)
			b.Level = true
			wants(t, "open, level", s, b, api.OK)
		}
	}
}

// eachGuests goes through how many guests there may be, and what they need.
func eachGuests(do func(guests int, level bool)) {
	for guests := 1; guests <= 4; guests++ {
		do(guests, false)
		do(guests, true)
	}
}

// TestG1Eligible: all categories, cabins and guests.
func TestG1Eligible(t *testing.T) {
	s := liner()
	// by category of who is promised: which categories serve it.
	served := [4][4]bool{{true, true, true, true}, {false, true, false, true}, {false, false, true, true}, {false, false, false, true}}
	eachGuests(func(guests int, level bool) {
		for i, c := range s.Cabins {
			fits, sure := api.ErrState, named(1, i, guests, 0, 4)
			if c.Berths >= guests && (c.Level || !level) {
				fits = api.OK
			}
			sure.Level = level
			wants(t, c.Name, s, sure, fits)
			for category := range s.Categories {
				b, want := promise(1, category, guests), fits
				if !served[category][c.Category] {
					want = api.ErrState
				}
				b.Cabin, b.Level = i, level
				wants(t, c.Name+" for "+s.Categories[category].Name, s, b, want)
				wants(t, "gone: "+c.Name+" for "+s.Categories[category].Name, s, gone(b), want)
			}
		}
	})
}

// TestG1Edges: what may just be.
func TestG1Edges(t *testing.T) {
	folio := make([]api.Entry, 12)
	for i := range folio {
		folio[i] = api.Entry{Day: 9999, Kind: 4, Amount: 1}
	}
	for _, b := range []api.Booking{named(10, 4, 4, 0, 4), promise(10, 3, 4)} {
		for _, id := range []int{1, 2, 999998, 999999} {
			wants(t, "id", liner(), but(b, func(b *api.Booking) { b.Id = id }), api.OK)
		}
		wants(t, "folio", liner(), but(b, func(b *api.Booking) { b.Folio = folio }), api.OK)
		wants(t, "empty folio", liner(), but(b, func(b *api.Booking) { b.Folio = []api.Entry{} }), api.OK)
		for state := api.StateOption; state <= api.StateGone; state++ {
			for _, until := range []int{0, 1, 9998, 9999} {
				want := api.OK
				if state != api.StateOption && until != 0 {
					want = api.ErrForm
				}
				wants(t, "until", liner(), but(b, func(b *api.Booking) { b.State, b.Until = state, until }), want)
			}
		}
	}
	wants(t, "nothing", liner(), api.Booking{}, api.ErrKind)
	wants(t, "nothing on nothing", api.Ship{}, api.Booking{}, api.ErrRange)
}

// TestG1Spans: of a named booking any span of the voyage, of a promise just the whole.
func TestG1Spans(t *testing.T) {
	for legs := 1; legs <= 7; legs++ {
		s := liner()
		s.Legs = legs
		for from := -1; from <= 8; from++ {
			for to := -1; to <= 8; to++ {
				sure, promised := api.OK, api.OK
				if from < 0 || to > legs {
					sure, promised = api.ErrRange, api.ErrRange
				} else if to <= from {
					sure, promised = api.ErrState, api.ErrState
				} else if from > 0 || to < legs {
					promised = api.ErrState
				}
				wants(t, "named", s, named(1, 0, 1, from, to), sure)
				wants(t, "promise", s, but(promise(1, 0, 1), func(b *api.Booking) { b.Span = api.Span{From: from, To: to} }), promised)
			}
		}
	}
}
