package stock_test

import (
	"testing"

	"taffrail/api"
	"taffrail/stock"
)

// liner is a ship that is right; each call makes it anew, so that a test may spoil it.
func liner() api.Ship {
	return api.Ship{
		Legs:  4,
		Souls: 14,
		Categories: []api.Category{
			{Name: "IN", Higher: []int{1, 2}},
			{Name: "OUT", Higher: []int{3}},
			{Name: "BALC", Higher: []int{3}},
			{Name: "SUITE"},
		},
		Cabins: []api.Cabin{
			{Name: "A1", Berths: 2},
			{Name: "A2", Berths: 4},
			{Name: "B1", Category: 1, Berths: 3, Level: true},
			{Name: "C1", Category: 2, Berths: 2},
			{Name: "D1", Category: 3, Berths: 4, Level: true},
		},
	}
}

func tariff() api.Fares {
	return api.Fares{
		Leg:   [][]int{{100, 120, 90, 75}, {150, 150, 150, 150}, {199, 201, 203, 205}, {400, 400, 400, 401}},
		Alone: 75, Third: 33, Down: 25,
		Bands: []api.Band{{Days: 3, Part: 100}, {Days: 14, Part: 60}, {Days: 30, Part: 20}},
	}
}

// sailing with bookings.
func sailing(l ...api.Booking) api.Sailing {
	return api.Sailing{Ship: liner(), Fares: tariff(), Day: 5, Leaves: 40, Bookings: l}
}

// closed sailing with bookings.
func closed(l ...api.Booking) api.Sailing {
	s := sailing(l...)
	s.Closed = true
	return s
}

// named booking, sure.
func named(id, cabin, guests, from, to int) api.Booking {
	return api.Booking{Id: id, Kind: api.KindNamed, State: api.StateSure, Guests: guests, Cabin: cabin, Span: api.Span{From: from, To: to}}
}

// promise that has no cabin yet, sure.
func promise(id, category, guests int) api.Booking {
	return api.Booking{Id: id, Kind: api.KindPromise, State: api.StateSure, Guests: guests, Cabin: -1, Category: category, Span: api.Span{To: 4}}
}

// in a cabin: a promise that has it.
func in(cabin int, b api.Booking) api.Booking {
	b.Cabin = cabin
	return b
}

func gone(b api.Booking) api.Booking {
	b.State, b.Until = api.StateGone, 0
	return b
}

func option(b api.Booking, until int) api.Booking {
	b.State, b.Until = api.StateOption, until
	return b
}

func level(b api.Booking) api.Booking {
	b.Level = true
	return b
}

// promises: so many of a category, for one guest each.
func promises(n, category int) []api.Booking {
	var l []api.Booking
	for i := range n {
		l = append(l, promise(100+i, category, 1))
	}
	return l
}

// wants: that Check tells an error, and all calls with it, and nothing else. A wrong sailing is told ahead of all else that is wrong.
func wants(t *testing.T, what string, s api.Sailing, want api.Errno) {
	t.Helper()
	if e := stock.Check(s); e != want {
		t.Errorf("%s: Check = %d, not %d", what, e, want)
	}
	ids, edges, e := stock.Promises(s)
	if e != want || want != api.OK && (ids != nil || edges != nil) {
		t.Errorf("%s: Promises = %v, %v, %d, not %d", what, ids, edges, e, want)
	}
	if l, e := stock.Free(s, 0); e != want || want != api.OK && l != nil {
		t.Errorf("%s: Free = %v, %d, not %d", what, l, e, want)
	}
	if ok, e := stock.Could(s, gone(named(999, 0, 1, 0, 1))); e != want || want != api.OK && ok {
		t.Errorf("%s: Could = %v, %d, not %d", what, ok, e, want)
	}
	if want == api.OK {
		return
	}
	for _, cabin := range []int{-1, 99} {
		if l, e := stock.Free(s, cabin); l != nil || e != want {
			t.Errorf("%s: Free of no cabin = %v, %d, not %d", what, l, e, want)
		}
	}
	for _, b := range append([]api.Booking{{}, promise(0, 0, 1)}, s.Bookings...) {
		if ok, e := stock.Could(s, b); ok || e != want {
			t.Errorf("%s: Could(%v) = %v, %d, not %d", what, b, ok, e, want)
		}
	}
}

type fault struct {
	name string
	do   func(s *api.Sailing)
	want api.Errno
}

// of one booking: what is wrong there.
func of(i int, do func(b *api.Booking)) func(s *api.Sailing) {
	return func(s *api.Sailing) { do(&s.Bookings[i]) }
}

// busy: a sailing that is right, with bookings of all sorts.
func busy() api.Sailing {
	return sailing(
		named(10, 0, 2, 0, 2),
		option(named(11, 0, 1, 2, 4), 9),
		promise(12, 0, 2),
		option(promise(13, 1, 3), 9),
		gone(in(4, promise(14, 3, 4))),
		gone(named(15, 0, 2, 0, 4)),
		gone(promise(16, 3, 4)),
	)
}

// faults in the order in which the document names them: what is wrong with the bookings, one by one, ahead of what is wrong with all of them.
func faults() []fault {
	return []fault{
		{"no leg", func(s *api.Sailing) { s.Ship.Legs = 0 }, api.ErrRange},
		{"no categories", func(s *api.Sailing) { s.Ship.Categories = nil }, api.ErrNone},
		{"cabin's name", func(s *api.Sailing) { s.Ship.Cabins[1].Name = "A1" }, api.ErrTwice},
		{"fares of fewer categories", func(s *api.Sailing) { s.Fares.Leg = s.Fares.Leg[:3] }, api.ErrForm},
		{"fares of fewer legs", func(s *api.Sailing) { s.Fares.Leg[3] = []int{1, 2, 3} }, api.ErrForm},
		{"many bands", func(s *api.Sailing) { s.Fares.Bands = make([]api.Band, 5) }, api.ErrMany},
		{"day below 0", func(s *api.Sailing) { s.Day = -1 }, api.ErrRange},
		{"late day", func(s *api.Sailing) { s.Day = 10000 }, api.ErrRange},
		{"leaves below 0", func(s *api.Sailing) { s.Leaves = -1 }, api.ErrRange},
		{"leaves late", func(s *api.Sailing) { s.Leaves = 10000 }, api.ErrRange},
		{"first one's kind", of(0, func(b *api.Booking) { b.Kind = 0 }), api.ErrKind},
		{"first one's id", of(0, func(b *api.Booking) { b.Id = 0 }), api.ErrRange},
		{"second one's form", of(1, func(b *api.Booking) { b.Category = 1 }), api.ErrForm},
		{"second one's folio", of(1, func(b *api.Booking) { b.Folio = make([]api.Entry, 13) }), api.ErrMany},
		{"second one's id is that of the first", of(1, func(b *api.Booking) { b.Id = 10 }), api.ErrState},
		{"second one's id is less", of(1, func(b *api.Booking) { b.Id = 9 }), api.ErrState},
		{"third one's category", of(2, func(b *api.Booking) { b.Category = 4 }), api.ErrRange},
		{"fourth one's state", of(3, func(b *api.Booking) { b.State = 9 }), api.ErrKind},
		{"fourth one's until", of(3, func(b *api.Booking) { b.Until = 10000 }), api.ErrRange},
		{"one that is gone is wrong", of(6, func(b *api.Booking) { b.Kind = 0 }), api.ErrKind},
		{"one that is gone has the id of another one", of(6, func(b *api.Booking) { b.Id = 15 }), api.ErrState},
		{"third one has a cabin", of(2, func(b *api.Booking) { b.Cabin = 1 }), api.ErrState},
		{"fourth one has a cabin", of(3, func(b *api.Booking) { b.Cabin = 2 }), api.ErrState},
		{"closed with open promises", func(s *api.Sailing) { s.Closed = true }, api.ErrState},
		{"spans meet", of(1, func(b *api.Booking) { b.Span.From = 1 }), api.ErrTwice},
		{"few souls", func(s *api.Sailing) { s.Ship.Souls = 6 }, api.ErrMany},
		{"no cabin left", func(s *api.Sailing) { s.Bookings[2].Category, s.Bookings[3].Category = 3, 3 }, api.ErrFull},
	}
}

// TestH1Faults one by one, and in twos: the one ahead is told; it is made last, so that it is there whatever the other one made.
func TestH1Faults(t *testing.T) {
	wants(t, "right", busy(), api.OK)
	l := faults()
	for i, x := range l {
		s := busy()
		x.do(&s)
		wants(t, x.name, s, x.want)
		for _, y := range l[i+1:] {
			s := busy()
			y.do(&s)
			x.do(&s)
			wants(t, x.name+" and "+y.name, s, x.want)
		}
	}
}

func TestH1Told(t *testing.T) {
	souls := func(s api.Sailing, n int) api.Sailing {
		s.Ship.Souls = n
		return s
	}
	for _, c := range []struct {
		name string
		s    api.Sailing
		want api.Errno
	}{
		{"nothing", api.Sailing{}, api.ErrRange},
		{"no bookings", sailing(), api.OK},
		{"closed, no bookings", closed(), api.OK},
		{"options count as live", sailing(option(named(1, 0, 1, 0, 3), 1), option(named(2, 0, 1, 2, 4), 1)), api.ErrTwice},
		{"meeting one that is gone", sailing(named(1, 0, 1, 0, 3), gone(named(2, 0, 1, 2, 4))), api.OK},
		{"meeting in the last cabin", sailing(named(1, 4, 1, 0, 3), named(2, 3, 1, 0, 4), named(3, 4, 1, 2, 4)), api.ErrTwice},
		{"side by side", sailing(named(1, 4, 1, 0, 2), named(2, 4, 1, 2, 4)), api.OK},
		{"two promises in one cabin", closed(in(1, promise(1, 0, 1)), in(1, promise(2, 0, 1))), api.ErrTwice},
		{"a promise in a cabin that is sold", closed(in(1, promise(1, 0, 1)), named(2, 1, 1, 0, 1)), api.ErrTwice},
		{"a promise in a cabin beside", closed(in(1, promise(1, 0, 1)), named(2, 0, 1, 0, 1)), api.OK},
		{"open promise, closed", closed(promise(1, 0, 1)), api.ErrState},
		{"open option, closed", closed(option(promise(1, 0, 1), 9)), api.ErrState},
		{"open promise that is gone, closed", closed(gone(promise(1, 0, 1))), api.OK},
		{"kept promise", sailing(in(1, promise(1, 0, 1))), api.ErrState},
		{"kept option", sailing(in(1, option(promise(1, 0, 1), 9))), api.ErrState},
		{"kept promise that is gone", sailing(gone(in(1, promise(1, 0, 1)))), api.OK},
		{"kept promise, closed", closed(in(1, promise(1, 0, 1))), api.OK},
		{"kept promise that is gone, closed", closed(gone(in(1, promise(1, 0, 1)))), api.OK},
		{"named, closed", closed(named(1, 0, 1, 0, 1)), api.OK},
		{"kept promise ahead of a wrong one", sailing(in(1, promise(1, 0, 1)), api.Booking{}), api.ErrKind},
		{"kept promise behind a wrong one", sailing(api.Booking{}, in(1, promise(1, 0, 1))), api.ErrKind},
		{"kept promise far ahead of a wrong one", sailing(in(1, promise(1, 0, 1)), named(2, 0, 1, 0, 1), gone(named(3, 9, 1, 0, 1))), api.ErrRange},
		{"open promise ahead of a wrong one, closed", closed(promise(1, 0, 1), named(2, 5, 1, 0, 1)), api.ErrRange},
		{"open promise behind a wrong one, closed", closed(named(1, 5, 1, 0, 1), promise(2, 0, 1)), api.ErrRange},
		{"an id that is not more ahead of a wrong one", sailing(named(2, 0, 1, 0, 1), named(2, 1, 1, 0, 1), named(3, 5, 1, 0, 1)), api.ErrState},
		{"an id that is not more behind a wrong one", sailing(named(2, 0, 1, 0, 1), named(3, 5, 1, 0, 1), named(2, 1, 1, 0, 1)), api.ErrRange},
		{"kept promise ahead of spans that meet", sailing(named(1, 0, 1, 0, 3), named(2, 0, 1, 2, 4), in(1, promise(3, 0, 1))), api.ErrState},
		{"just as many souls", souls(sailing(named(1, 0, 2, 0, 2), promise(2, 0, 2), named(3, 3, 2, 2, 4)), 4), api.OK},
		{"a soul more", souls(sailing(named(1, 0, 2, 0, 2), promise(2, 0, 2), named(3, 3, 2, 1, 4)), 5), api.ErrMany},
		{"a soul more, of promises", souls(sailing(promise(1, 0, 2), promise(2, 0, 2)), 3), api.ErrMany},
		{"a soul more, of one that is gone", souls(sailing(promise(1, 0, 2), gone(promise(2, 0, 2))), 2), api.OK},
		{"souls ahead of promises", souls(sailing(promises(6, 0)...), 5), api.ErrMany},
		{"cabins ahead of souls", souls(sailing(named(1, 0, 2, 0, 3), named(2, 0, 2, 2, 4)), 1), api.ErrTwice},
		{"five promises", sailing(promises(5, 0)...), api.OK},
		{"six promises", sailing(promises(6, 0)...), api.ErrFull},
		{"two promises of a suite", sailing(promises(2, 3)...), api.ErrFull},
		{"two promises of a suite, one gone", sailing(gone(promise(1, 3, 1)), promise(2, 3, 1)), api.OK},
		{"two promises of a suite, one an option", sailing(option(promise(1, 3, 1), 9), promise(2, 3, 1)), api.ErrFull},
		{"three in need of level cabins", sailing(level(promise(1, 0, 1)), level(promise(2, 0, 1)), level(promise(3, 0, 1))), api.ErrFull},
		{"two in need of level cabins", sailing(level(promise(1, 0, 1)), level(promise(2, 0, 1)), promise(3, 0, 1)), api.OK},
		{"three of four", sailing(promise(1, 0, 4), promise(2, 0, 4), promise(3, 0, 4)), api.ErrFull},
		{"a cabin that is sold on a leg keeps no promise", sailing(named(1, 4, 1, 3, 4), promise(2, 3, 1)), api.ErrFull},
		{"a cabin whose booking is gone does", sailing(gone(named(1, 4, 1, 3, 4)), promise(2, 3, 1)), api.OK},
	} {
		wants(t, c.name, c.s, c.want)
	}
}

// TestH1Days: each day from the first to the last, and none beside.
func TestH1Days(t *testing.T) {
	for _, c := range []struct {
		day, leaves int
		want        api.Errno
	}{{0, 0, api.OK}, {9999, 0, api.OK}, {0, 9999, api.OK}, {9999, 9999, api.OK}, {-1, 0, api.ErrRange}, {0, -1, api.ErrRange}, {10000, 0, api.ErrRange}, {0, 10000, api.ErrRange}} {
		s := busy()
		s.Day, s.Leaves = c.day, c.leaves
		wants(t, "days", s, c.want)
	}
}

// TestH1Many: how many bookings there may be; those that are gone are there, too.
func TestH1Many(t *testing.T) {
	for n := range 20 {
		l, wrong := make([]api.Booking, n), make([]api.Booking, n)
		for i := range l {
			l[i] = gone(promise(1+i, 0, 1))
		}
		want, worse := api.OK, api.ErrKind
		if n > 16 {
			want, worse = api.ErrMany, api.ErrMany
		}
		wants(t, "many", sailing(l...), want)
		if n > 0 {
			wants(t, "many wrong ones", sailing(wrong...), worse)
		}
		s := sailing(l...)
		s.Day = -1
		wants(t, "day ahead of many", s, api.ErrRange)
	}
}

// TestH1MostSouls: more than there may be on any ship are too many.
func TestH1MostSouls(t *testing.T) {
	s := sailing()
	s.Ship.Souls = 60
	s.Ship.Cabins = nil
	for i := range 12 {
		s.Ship.Cabins = append(s.Ship.Cabins, api.Cabin{Name: "C" + string(rune('A'+i)), Berths: 4})
		s.Bookings = append(s.Bookings, named(1+i, i, 4, 0, 4))
	}
	wants(t, "full", s, api.OK)
	s.Bookings = nil
	for i := range 15 {
		s.Bookings = append(s.Bookings, promise(1+i, 0, 4))
	}
	wants(t, "60 souls, 12 cabins", s, api.ErrFull)
	s.Bookings = append(s.Bookings, promise(16, 0, 4))
	wants(t, "64 souls", s, api.ErrMany)
}
