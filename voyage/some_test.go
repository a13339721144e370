package voyage_test

import (
	"math/rand/v2"
	"testing"

	"taffrail/api"
	"taffrail/stock"
	"taffrail/voyage"
)

// drawn booking of any kind and state; with an Until only where one may be.
func drawn(r *rand.Rand, id int, isClosed bool) api.Booking {
	from := r.IntN(3)
	b := guest(id, r.IntN(5), from, from+1+r.IntN(3-from))
	if r.IntN(3) > 0 {
		b = word(id, r.IntN(4), 1, none)
		if isClosed {
			b.Cabin = r.IntN(5)
		}
	}
	b.Guests, b.Level = 1+r.IntN(4), r.IntN(5) == 0
	if n := r.IntN(4); n > 0 {
		b = option(r.IntN(20), b)
	} else if r.IntN(2) == 0 {
		b = gone(b)
	}
	day := 0
	for range r.IntN(13) * r.IntN(2) {
		day += r.IntN(3)
		b.Folio = append(b.Folio, []api.Entry{fare(day, r.IntN(50)), paid(day, -r.IntN(50)), back(day, r.IntN(50)-25), penalty(day, r.IntN(9))}[r.IntN(4)])
	}
	return b
}

// drawnSailing that is right: of some bookings those come that leave it so.
func drawnSailing(r *rand.Rand) api.Sailing {
	s := on(r.IntN(20), ferry())
	s.Closed = r.IntN(4) == 0
	for i := range 1 + r.IntN(14) {
		b := drawn(r, 3+2*i, s.Closed)
		if ok, e := stock.Could(s, b); ok && e == api.OK {
			s.Bookings = append(s.Bookings, b)
		}
	}
	return s
}

// late option, as it is behind its time by the words of the document.
func late(b api.Booking, day int) api.Booking {
	fares, rest, last := 0, 0, 0
	for _, x := range b.Folio {
		if x.Kind == api.EntryFare || x.Kind == api.EntryBack {
			fares += x.Amount
		} else {
			rest += x.Amount
		}
		last = x.Day
	}
	var come []api.Entry
	if fares != 0 {
		come = append(come, back(day, -fares))
	}
	if rest < 0 {
		come = append(come, back(day, -rest))
	}
	if len(b.Folio)+len(come) > api.MaxEntries || len(come) > 0 && last > day {
		come = nil
	}
	return gone(b, come...)
}

// turned by the words of the document.
func turned(s api.Sailing, day int) (api.Sailing, []int) {
	var l []api.Booking
	var ids []int
	for _, b := range s.Bookings {
		if b.State == api.StateOption && b.Until < day {
			b = late(b, day)
			ids = append(ids, b.Id)
		}
		l = append(l, b)
	}
	s.Day, s.Bookings = day, l
	return s, ids
}

// keeps: is a cabin of the ferry one that may keep a promise, and has no live booking it?
func keeps(s api.Sailing, b api.Booking, cabin int) bool {
	height := []int{inside: 1, outside: 2, suite: 3, bunk: 0}
	c := s.Ship.Cabins[cabin]
	for _, x := range s.Bookings {
		if x.State != api.StateGone && x.Cabin == cabin {
			return false
		}
	}
	return height[c.Category] >= height[b.Category] && c.Berths >= b.Guests && (c.Level || !b.Level)
}

// kept: all promises from a place on, each in the first cabin that leaves one to each behind it.
func kept(s api.Sailing, from int) (api.Sailing, bool) {
	for i := from; i < len(s.Bookings); i++ {
		b := s.Bookings[i]
		if b.Kind != api.KindPromise || b.State == api.StateGone || b.Cabin != none {
			continue
		}
		for cabin := range s.Ship.Cabins {
			if !keeps(s, b, cabin) {
				continue
			}
			if next, ok := kept(cabinOf(s, i, cabin), i+1); ok {
				return next, true
			}
		}
		return s, false
	}
	return closed(s), true
}

// cabinOf a booking at a place, in a sailing of its own.
func cabinOf(s api.Sailing, at, cabin int) api.Sailing {
	s.Bookings = append([]api.Booking(nil), s.Bookings...)
	s.Bookings[at].Cabin = cabin
	return s
}

// planned by the words of the document.
func planned(s api.Sailing) []api.Edge {
	var l []api.Edge
	for _, b := range s.Bookings {
		if b.State != api.StateGone && b.Cabin != none {
			l = append(l, api.Edge{Left: b.Id, Right: b.Cabin})
		}
	}
	return l
}

// TestKSome: some thousand sailings, turned, closed and planned.
func TestKSome(t *testing.T) {
	r := rand.New(rand.NewPCG(1, 2))
	went, had := 0, 0
	for range 2000 {
		s := drawnSailing(r)
		day := s.Day + 1 + r.IntN(25)
		want, ids := turned(s, day)
		turns(t, "some", s, day, want, ids, api.OK)
		plans(t, "some", s, planned(s), api.OK)
		if e := stock.Check(want); e != api.OK {
			t.Fatalf("%v is not right: %d", want, e)
		}
		went += len(ids)
		if s.Closed {
			closes(t, "some that is closed", s, api.Sailing{}, api.ErrState)
			continue
		}
		all, ok := kept(s, 0)
		if !ok || stock.Check(all) != api.OK {
			t.Fatalf("%v can't be closed", s)
		}
		closes(t, "some", s, all, api.OK)
		plans(t, "some, closed", all, planned(all), api.OK)
		had += len(planned(all)) - len(planned(s))
		if t.Failed() {
			return
		}
	}
	if went < 2000 || had < 2000 {
		t.Errorf("only %d went, and %d had a cabin", went, had)
	}
}

// TestK3Always: whatever comes, sold or not, a sailing that is right and not Closed can be closed, and is right then.
func TestK3Always(t *testing.T) {
	r := rand.New(rand.NewPCG(3, 4))
	for range 500 {
		s := drawnSailing(r)
		for range 6 {
			next, e := voyage.Close(s)
			if s.Closed && e != api.ErrState || !s.Closed && (e != api.OK || !next.Closed || stock.Check(next) != api.OK) {
				t.Fatalf("%v: %v, %d", s, next, e)
			}
			if s, _, e = voyage.Turn(s, s.Day+1+r.IntN(9)); e != api.OK {
				t.Fatalf("it can't be turned: %d", e)
			}
		}
	}
}
