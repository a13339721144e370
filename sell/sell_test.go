package sell_test

import (
	"fmt"
	"math"
	"reflect"
	"testing"

	"taffrail/api"
	"taffrail/sell"
)

// liner is a ship that is right; each call makes it anew, so that a test may spoil it.
func liner() api.Ship {
	return api.Ship{
		Legs:  4,
		Souls: 14,
		Categories: []api.Category{
			{Name: "IN", Higher: []int{1, 2}},
			{Name: "OUT", Higher: []int{3}},
			{Name: "BALC", Higher: []int{3}},
			{Name: "SUITE"},
		},
		Cabins: []api.Cabin{
			{Name: "A1", Berths: 2},
			{Name: "A2", Berths: 4},
			{Name: "B1", Category: 1, Berths: 3, Level: true},
			{Name: "C1", Category: 2, Berths: 2},
			{Name: "D1", Category: 3, Berths: 4, Level: true},
		},
	}
}

func tariff() api.Fares {
	return api.Fares{
		Leg:   [][]int{{100, 120, 90, 75}, {150, 150, 150, 150}, {199, 201, 203, 205}, {400, 400, 400, 401}},
		Alone: 75, Third: 33, Down: 25,
		Bands: []api.Band{{Days: 3, Part: 100}, {Days: 14, Part: 60}, {Days: 30, Part: 20}},
	}
}

// sailing with bookings.
func sailing(l ...api.Booking) api.Sailing {
	return api.Sailing{Ship: liner(), Fares: tariff(), Day: 5, Leaves: 40, Bookings: l}
}

// closed sailing with bookings.
func closed(l ...api.Booking) api.Sailing {
	s := sailing(l...)
	s.Closed = true
	return s
}

// on a day, of a sailing that leaves on one.
func on(day, leaves int, s api.Sailing) api.Sailing {
	s.Day, s.Leaves = day, leaves
	return s
}

// souls: how many may be on board of a sailing.
func souls(n int, s api.Sailing) api.Sailing {
	s.Ship.Souls = n
	return s
}

// named booking, sure.
func named(id, cabin, guests, from, to int) api.Booking {
	return api.Booking{Id: id, Kind: api.KindNamed, State: api.StateSure, Guests: guests, Cabin: cabin, Span: api.Span{From: from, To: to}}
}

// promise that has no cabin yet, sure.
func promise(id, category, guests int) api.Booking {
	return api.Booking{Id: id, Kind: api.KindPromise, State: api.StateSure, Guests: guests, Cabin: -1, Category: category, Span: api.Span{To: 4}}
}

// in a cabin: a promise that has it.
func in(cabin int, b api.Booking) api.Booking {
	b.Cabin = cabin
	return b
}

func gone(b api.Booking) api.Booking {
	b.State, b.Until = api.StateGone, 0
	return b
}

func option(b api.Booking, until int) api.Booking {
	b.State, b.Until = api.StateOption, until
	return b
}

func level(b api.Booking) api.Booking {
	b.Level = true
	return b
}

func with(b api.Booking, l ...api.Entry) api.Booking {
	b.Folio = l
	return b
}

// many: so many bookings that are gone, of Ids from one on.
func many(n, id int) []api.Booking {
	var l []api.Booking
	for i := range n {
		l = append(l, gone(promise(id+i, 0, 1)))
	}
	return l
}

// busy: a sailing that is right, with bookings of all sorts.
func busy() api.Sailing {
	return sailing(
		with(named(10, 0, 2, 0, 2), api.Entry{Day: 2, Kind: api.EntryFare, Amount: 440}, api.Entry{Day: 3, Kind: api.EntryPaid, Amount: -40}),
		option(named(11, 0, 1, 2, 4), 9),
		promise(12, 0, 2),
		option(promise(13, 1, 3), 9),
		gone(in(4, promise(14, 3, 4))),
		gone(named(15, 0, 2, 0, 4)),
		gone(promise(16, 3, 4)),
	)
}

// sold by the call of a kind.
func sold(kind int, s api.Sailing, b api.Booking) (api.Sailing, api.Errno) {
	if kind == api.KindPromise {
		return sell.Promise(s, b)
	}
	return sell.Named(s, b)
}

// wants that a booking is sold, or not: with an error nothing else comes.
func wants(t *testing.T, what string, kind int, s api.Sailing, b api.Booking, want api.Errno) {
	t.Helper()
	next, e := sold(kind, s, b)
	if e != want {
		t.Errorf("%s: kind %d: %d, not %d", what, kind, e, want)
	}
	if e != api.OK && !reflect.DeepEqual(next, api.Sailing{}) {
		t.Errorf("%s: kind %d: with %d comes %v", what, kind, e, next)
	}
}

type fault struct {
	name string
	do   func(s *api.Sailing, b *api.Booking)
	want api.Errno
}

// wantsFaults: one by one, and in twos, of which the one that stands ahead is told.
func wantsFaults(t *testing.T, kind int, b api.Booking, faults []fault) {
	t.Helper()
	wants(t, "none", kind, busy(), b, api.OK)
	for i, first := range faults {
		for _, second := range faults[i:] {
			s, x := busy(), b
			second.do(&s, &x)
			first.do(&s, &x)
			wants(t, first.name+", "+second.name, kind, s, x, first.want)
		}
	}
}

// wrongFirst: what is told ahead of anything of the booking, in order.
func wrongFirst() []fault {
	return []fault{
		{"wrong ship", func(s *api.Sailing, b *api.Booking) { s.Ship.Legs = 0 }, api.ErrRange},
		{"wrong fares", func(s *api.Sailing, b *api.Booking) { s.Fares.Leg = nil }, api.ErrForm},
		{"wrong day", func(s *api.Sailing, b *api.Booking) { s.Day = -1 }, api.ErrRange},
		{"wrong booking there", func(s *api.Sailing, b *api.Booking) { s.Bookings[6].Kind = 3 }, api.ErrKind},
		{"gone", func(s *api.Sailing, b *api.Booking) { b.State = api.StateGone }, api.ErrKind},
		{"of no kind", func(s *api.Sailing, b *api.Booking) { b.Kind = 0 }, api.ErrKind},
	}
}

// fullFirst: no room for a booking more.
func fullFirst() fault {
	return fault{"many", func(s *api.Sailing, b *api.Booking) { s.Bookings = append(s.Bookings, many(9, 100)...) }, api.ErrMany}
}

// TestI1NamedFaults: in the order in which the document names them.
func TestI1NamedFaults(t *testing.T) {
	wantsFaults(t, api.KindNamed, option(named(20, 4, 1, 0, 1), 9), append(wrongFirst(), []fault{
		{"of the other kind", func(s *api.Sailing, b *api.Booking) { b.Kind = api.KindPromise }, api.ErrKind},
		{"folio", func(s *api.Sailing, b *api.Booking) { b.Folio = []api.Entry{{Kind: api.EntryFare}} }, api.ErrForm},
		{"no state", func(s *api.Sailing, b *api.Booking) { b.State = 4 }, api.ErrKind},
		{"nobody", func(s *api.Sailing, b *api.Booking) { b.Guests = 0 }, api.ErrRange},
		{"category", func(s *api.Sailing, b *api.Booking) { b.Category = 1 }, api.ErrForm},
		{"left", func(s *api.Sailing, b *api.Booking) { s.Day = 40 }, api.ErrState},
		{"too early an option", func(s *api.Sailing, b *api.Booking) { b.Until = 4 }, api.ErrState},
		{"twice", func(s *api.Sailing, b *api.Booking) { b.Id = 16 }, api.ErrTwice},
		fullFirst(),
		{"had", func(s *api.Sailing, b *api.Booking) { b.Cabin = 0 }, api.ErrTwice},
		{"souls", func(s *api.Sailing, b *api.Booking) { s.Ship.Souls = 7 }, api.ErrSpace},
		{"promised", func(s *api.Sailing, b *api.Booking) { s.Bookings[3].Category = 3 }, api.ErrFull},
	}...))
}

// TestI1PromiseFaults: in the order in which the document names them; a Closed sailing stands with one that has left.
func TestI1PromiseFaults(t *testing.T) {
	wantsFaults(t, api.KindPromise, option(promise(20, 0, 1), 9), append(wrongFirst(), []fault{
		{"of the other kind", func(s *api.Sailing, b *api.Booking) { b.Kind = api.KindNamed }, api.ErrKind},
		{"folio", func(s *api.Sailing, b *api.Booking) { b.Folio = []api.Entry{{Kind: api.EntryFare}} }, api.ErrForm},
		{"cabin", func(s *api.Sailing, b *api.Booking) { b.Cabin = 1 }, api.ErrForm},
		{"no state", func(s *api.Sailing, b *api.Booking) { b.State = 4 }, api.ErrKind},
		{"nobody", func(s *api.Sailing, b *api.Booking) { b.Guests = 0 }, api.ErrRange},
		{"no category", func(s *api.Sailing, b *api.Booking) { b.Category = 4 }, api.ErrRange},
		{"not all legs", func(s *api.Sailing, b *api.Booking) { b.Span.To = 3 }, api.ErrState},
		{"left", func(s *api.Sailing, b *api.Booking) { s.Day = 40 }, api.ErrState},
		{"too early an option", func(s *api.Sailing, b *api.Booking) { b.Until = 4 }, api.ErrState},
		{"closed", func(s *api.Sailing, b *api.Booking) {
			s.Closed, s.Bookings[2].Cabin, s.Bookings[3].Cabin = true, 1, 2
		}, api.ErrState},
		{"twice", func(s *api.Sailing, b *api.Booking) { b.Id = 16 }, api.ErrTwice},
		fullFirst(),
		{"souls", func(s *api.Sailing, b *api.Booking) { s.Ship.Souls = 7 }, api.ErrSpace},
		{"no suite left", func(s *api.Sailing, b *api.Booking) {
			s.Bookings[5] = named(15, 4, 1, 3, 4)
			b.Category = 3
		}, api.ErrFull},
	}...))
}

func TestI1Named(t *testing.T) {
	for _, c := range []struct {
		name string
		s    api.Sailing
		b    api.Booking
		want api.Errno
	}{
		{"first", sailing(), named(1, 0, 1, 0, 1), api.OK},
		{"greatest Id", busy(), named(999999, 4, 1, 0, 1), api.OK},
		{"Id too great", busy(), named(1000000, 4, 1, 0, 1), api.ErrRange},
		{"Id 0", busy(), named(0, 4, 1, 0, 1), api.ErrRange},
		{"nothing", busy(), api.Booking{}, api.ErrKind},
		{"a promise", busy(), promise(20, 0, 1), api.ErrKind},
		{"kind 3", busy(), api.Booking{Kind: 3}, api.ErrKind},
		{"no cabin", busy(), named(20, -1, 1, 0, 1), api.ErrRange},
		{"cabin 5", busy(), named(20, 5, 1, 0, 1), api.ErrRange},
		{"least cabin", busy(), named(20, math.MinInt, 1, 0, 1), api.ErrRange},
		{"greatest cabin", busy(), named(20, math.MaxInt, 1, 0, 1), api.ErrRange},
		{"too many guests for it", sailing(), named(20, 0, 3, 0, 1), api.ErrState},
		{"no level one", sailing(), level(named(20, 0, 1, 0, 1)), api.ErrState},
		{"a level one", sailing(), level(named(20, 4, 1, 0, 1)), api.OK},
		{"no span", sailing(), named(20, 0, 1, 2, 2), api.ErrState},
		{"beyond the voyage", sailing(), named(20, 0, 1, 2, 5), api.ErrRange},
		{"sure, till a day", sailing(), api.Booking{Id: 20, Kind: 1, State: 2, Guests: 1, Until: 9, Span: api.Span{To: 1}}, api.ErrForm},
		{"option till today", sailing(), option(named(20, 0, 1, 0, 1), 5), api.OK},
		{"option till yesterday", sailing(), option(named(20, 0, 1, 0, 1), 4), api.ErrState},
		{"option till the day before it leaves", sailing(), option(named(20, 0, 1, 0, 1), 39), api.OK},
		{"option till it leaves", sailing(), option(named(20, 0, 1, 0, 1), 40), api.ErrState},
		{"option beyond all days", sailing(), option(named(20, 0, 1, 0, 1), 10000), api.ErrRange},
		{"option till day 0, on day 0", on(0, 1, sailing()), option(named(20, 0, 1, 0, 1), 0), api.OK},
		{"option till day 0, on day 1", on(1, 2, sailing()), option(named(20, 0, 1, 0, 1), 0), api.ErrState},
		{"sure on the last day", on(39, 40, sailing()), named(20, 0, 1, 0, 1), api.OK},
		{"option on the last day", on(39, 40, sailing()), option(named(20, 0, 1, 0, 1), 39), api.OK},
		{"it leaves today", on(40, 40, sailing()), named(20, 0, 1, 0, 1), api.ErrState},
		{"it has left", on(41, 40, sailing()), named(20, 0, 1, 0, 1), api.ErrState},
		{"day 0, leaving on it", on(0, 0, sailing()), named(20, 0, 1, 0, 1), api.ErrState},
		{"Id of one that is gone", busy(), named(16, 4, 1, 0, 1), api.ErrTwice},
		{"sixteenth", sailing(many(15, 1)...), named(20, 0, 1, 0, 1), api.OK},
		{"seventeenth", sailing(many(16, 1)...), named(20, 0, 1, 0, 1), api.ErrMany},
		{"seventeenth, twice", sailing(many(16, 1)...), named(16, 0, 1, 0, 1), api.ErrTwice},
		{"seventeenth, of a cabin that is had", sailing(append(many(15, 1), named(16, 0, 1, 0, 1))...), named(20, 0, 1, 0, 1), api.ErrMany},
		{"meeting at its first leg", busy(), named(20, 0, 1, 1, 2), api.ErrTwice},
		{"meeting an option", busy(), named(20, 0, 1, 3, 4), api.ErrTwice},
		{"around one", sailing(named(1, 4, 1, 1, 2)), named(20, 4, 1, 0, 4), api.ErrTwice},
		{"side by side", sailing(named(1, 4, 1, 1, 2)), named(20, 4, 1, 2, 4), api.OK},
		{"ahead of one", sailing(named(1, 4, 1, 1, 2)), named(20, 4, 1, 0, 1), api.OK},
		{"where one is gone", sailing(gone(named(1, 4, 1, 1, 2))), named(20, 4, 1, 0, 4), api.OK},
		{"just as many souls", souls(8, busy()), named(20, 4, 1, 0, 2), api.OK},
		{"a soul more", souls(8, busy()), named(20, 4, 2, 0, 2), api.ErrSpace},
		{"a soul more, on the last leg", souls(7, busy()), named(20, 4, 2, 3, 4), api.ErrSpace},
		{"just as many souls, on the last leg", souls(7, busy()), named(20, 4, 1, 3, 4), api.OK},
		{"a cabin that a promise needs", sailing(promise(1, 3, 1)), named(20, 4, 1, 3, 4), api.ErrFull},
		{"a cabin that no promise needs", sailing(promise(1, 3, 1)), named(20, 3, 1, 0, 4), api.OK},
		{"a cabin that a promise needed", sailing(gone(promise(1, 3, 1))), named(20, 4, 1, 3, 4), api.OK},
		{"a cabin that is sold on other legs keeps none anyhow", sailing(named(1, 4, 1, 0, 1), promise(2, 1, 1)), named(20, 4, 1, 1, 4), api.OK},
		{"closed", closed(in(4, promise(1, 3, 1))), named(20, 3, 1, 0, 4), api.OK},
		{"closed, where a promise is kept", closed(in(4, promise(1, 3, 1))), named(20, 4, 1, 3, 4), api.ErrTwice},
	} {
		wants(t, c.name, api.KindNamed, c.s, c.b, c.want)
	}
}

func TestI1Promise(t *testing.T) {
	for _, c := range []struct {
		name string
		s    api.Sailing
		b    api.Booking
		want api.Errno
	}{
		{"first", sailing(), promise(1, 0, 1), api.OK},
		{"greatest Id", busy(), promise(999999, 0, 1), api.OK},
		{"Id too great", busy(), promise(1000000, 0, 1), api.ErrRange},
		{"nothing", busy(), api.Booking{}, api.ErrKind},
		{"a named one", busy(), named(20, 4, 1, 0, 4), api.ErrKind},
		{"cabin 0", sailing(), in(0, promise(1, 0, 1)), api.ErrForm},
		{"a cabin, closed", closed(), in(0, promise(1, 0, 1)), api.ErrForm},
		{"no cabin, below -1", sailing(), in(-2, promise(1, 0, 1)), api.ErrForm},
		{"cabin 99", sailing(), in(99, promise(1, 0, 1)), api.ErrForm},
		{"greatest cabin", sailing(), in(math.MaxInt, promise(1, 0, 1)), api.ErrForm},
		{"no category", sailing(), promise(1, -1, 1), api.ErrRange},
		{"option till today", sailing(), option(promise(1, 0, 1), 5), api.OK},
		{"option till yesterday", sailing(), option(promise(1, 0, 1), 4), api.ErrState},
		{"option till the day before it leaves", sailing(), option(promise(1, 0, 1), 39), api.OK},
		{"option till it leaves", sailing(), option(promise(1, 0, 1), 40), api.ErrState},
		{"sure on the last day", on(39, 40, sailing()), promise(1, 0, 1), api.OK},
		{"it leaves today", on(40, 40, sailing()), promise(1, 0, 1), api.ErrState},
		{"closed", closed(), promise(1, 0, 1), api.ErrState},
		{"closed, twice", closed(many(1, 1)...), promise(1, 0, 1), api.ErrState},
		{"closed, seventeenth", closed(many(16, 1)...), promise(99, 0, 1), api.ErrState},
		{"Id of one that is gone", busy(), promise(16, 0, 1), api.ErrTwice},
		{"sixteenth", sailing(many(15, 1)...), promise(99, 0, 1), api.OK},
		{"seventeenth", sailing(many(16, 1)...), promise(99, 0, 1), api.ErrMany},
		{"just as many souls", souls(8, busy()), promise(20, 0, 1), api.OK},
		{"a soul more", souls(8, busy()), promise(20, 0, 2), api.ErrSpace},
		{"a soul more, and no cabin", souls(8, busy()), level(promise(20, 0, 2)), api.ErrSpace},
		{"the only suite", sailing(promise(1, 1, 1)), promise(2, 3, 1), api.OK},
		{"a second suite", sailing(promise(1, 3, 1)), promise(2, 3, 1), api.ErrFull},
		{"a suite that is sold on a leg", sailing(named(1, 4, 1, 2, 3)), promise(2, 3, 1), api.ErrFull},
		{"more guests than any cabin of it has", sailing(), promise(2, 2, 4), api.OK},
		{"more guests than are left", sailing(promise(1, 3, 1)), promise(2, 2, 4), api.ErrFull},
		{"level", sailing(), level(promise(2, 0, 1)), api.OK},
		{"no level one is left", sailing(named(1, 2, 1, 0, 1), promise(2, 3, 1)), level(promise(3, 0, 1)), api.ErrFull},
	} {
		wants(t, c.name, api.KindPromise, c.s, c.b, c.want)
	}
}

// TestI1MostSouls: the greatest ship, whose cabins are all promised: no room is told ahead of no cabin.
func TestI1MostSouls(t *testing.T) {
	s := sailing()
	s.Ship.Souls = 60
	s.Ship.Cabins = nil
	for i := range 12 {
		s.Ship.Cabins = append(s.Ship.Cabins, api.Cabin{Name: "C" + string(rune('A'+i)), Berths: 4})
	}
	s.Bookings = nil
	for i := range 12 {
		s.Bookings = append(s.Bookings, promise(1+i, 0, 4))
	}
	wants(t, "48 souls", api.KindPromise, s, promise(99, 0, 4), api.ErrFull)
	wants(t, "48 souls", api.KindNamed, s, named(99, 0, 4, 0, 1), api.ErrFull)
	s.Ship.Souls = 50
	wants(t, "52 souls", api.KindPromise, s, promise(99, 0, 4), api.ErrSpace)
	wants(t, "52 souls", api.KindNamed, s, named(99, 0, 4, 0, 1), api.ErrSpace)
	wants(t, "50 souls", api.KindNamed, s, named(99, 0, 2, 0, 1), api.ErrFull)
}

// TestI1Fare: of the cabin's category, or of the one that is promised; of the day.
func TestI1Fare(t *testing.T) {
	free := sailing()
	free.Fares.Leg[0] = []int{0, 0, 0, 0}
	for _, c := range []struct {
		name string
		s    api.Sailing
		b    api.Booking
		want api.Entry
	}{
		{"two", sailing(), named(1, 0, 2, 0, 2), api.Entry{Day: 5, Kind: api.EntryFare, Amount: 440}},
		{"alone", sailing(), named(1, 0, 1, 2, 4), api.Entry{Day: 5, Kind: api.EntryFare, Amount: 289}},
		{"three, of category 1", on(0, 40, sailing()), option(named(1, 2, 3, 0, 4), 39), api.Entry{Day: 0, Kind: api.EntryFare, Amount: 1398}},
		{"two, of category 2", on(39, 40, sailing()), named(1, 3, 2, 1, 3), api.Entry{Day: 39, Kind: api.EntryFare, Amount: 808}},
		{"four, of category 3", on(9998, 9999, sailing()), named(1, 4, 4, 3, 4), api.Entry{Day: 9998, Kind: api.EntryFare, Amount: 2*401 + 2*132}},
		{"promised", sailing(), promise(1, 0, 2), api.Entry{Day: 5, Kind: api.EntryFare, Amount: 770}},
		{"promised, of category 3", sailing(), promise(1, 3, 4), api.Entry{Day: 5, Kind: api.EntryFare, Amount: 4258}},
		{"promised, of category 1", sailing(), option(promise(1, 1, 1), 7), api.Entry{Day: 5, Kind: api.EntryFare, Amount: 1050}},
		{"for nothing", free, named(1, 0, 2, 0, 2), api.Entry{Day: 5, Kind: api.EntryFare}},
		{"promised for nothing", free, promise(1, 0, 2), api.Entry{Day: 5, Kind: api.EntryFare}},
	} {
		next, e := sold(c.b.Kind, c.s, c.b)
		want := c.s
		want.Bookings = []api.Booking{with(c.b, c.want)}
		if fmt.Sprint(next) != fmt.Sprint(want) || e != api.OK {
			t.Errorf("%s: %v, %d, not %v", c.name, next, e, want)
		}
	}
}

// TestI1Place: a booking comes where its Id belongs.
func TestI1Place(t *testing.T) {
	for _, id := range []int{1, 9, 17, 18, 999999} {
		for _, b := range []api.Booking{named(id, 4, 1, 0, 1), option(promise(id, 0, 2), 8)} {
			next, e := sold(b.Kind, busy(), b)
			var want []api.Booking
			for _, x := range busy().Bookings {
				if x.Id < id {
					want = append(want, x)
				}
			}
			price := 700
			if b.Kind == api.KindPromise {
				price = 770
			}
			want = append(want, with(b, api.Entry{Day: 5, Kind: api.EntryFare, Amount: price}))
			for _, x := range busy().Bookings {
				if x.Id > id {
					want = append(want, x)
				}
			}
			if fmt.Sprint(next.Bookings) != fmt.Sprint(want) || e != api.OK {
				t.Errorf("%d: %v, %d, not %v", id, next.Bookings, e, want)
			}
		}
	}
}

// TestExample is that of the document: two promises of an inside cabin can be kept, a third is refused.
func TestExample(t *testing.T) {
	s := api.Sailing{
		Ship: api.Ship{Legs: 3, Souls: 9,
			Categories: []api.Category{{Name: "IN", Higher: []int{1}}, {Name: "OUT", Higher: []int{2}}, {Name: "SUITE"}},
			Cabins:     []api.Cabin{{Name: "I", Berths: 2}, {Name: "O", Category: 1, Berths: 2}, {Name: "S", Category: 2, Berths: 2}}},
		Fares:  api.Fares{Leg: [][]int{{1, 1, 1}, {2, 2, 2}, {3, 3, 3}}},
		Leaves: 9,
	}
	for id, want := range []api.Errno{1: api.OK, 2: api.OK, 3: api.OK, 4: api.ErrFull, 5: api.ErrFull} {
		b := promise(id, 0, 1)
		b.Span.To = 3
		if id < 2 {
			b = named(id, 1, 2, 1, 3)
		}
		if id == 0 {
			continue
		}
		next, e := sold(b.Kind, s, b)
		if e != want {
			t.Fatalf("%d: %d, not %d", id, e, want)
		}
		if e == api.OK {
			s = next
		}
	}
}
