package change_test

import (
	"fmt"
	"math"
	"reflect"
	"testing"

	"taffrail/api"
	"taffrail/change"
)

// liner is a ship that is right; each call makes it anew, so that a test may spoil it.
func liner() api.Ship {
	return api.Ship{
		Legs:  4,
		Souls: 14,
		Categories: []api.Category{
			{Name: "IN", Higher: []int{1, 2}},
			{Name: "OUT", Higher: []int{3}},
			{Name: "BALC", Higher: []int{3}},
			{Name: "SUITE"},
		},
		Cabins: []api.Cabin{
			{Name: "A1", Berths: 2},
			{Name: "A2", Berths: 4},
			{Name: "B1", Category: 1, Berths: 3, Level: true},
			{Name: "C1", Category: 2, Berths: 2},
			{Name: "D1", Category: 3, Berths: 4, Level: true},
		},
	}
}

func tariff() api.Fares {
	return api.Fares{
		Leg:   [][]int{{100, 120, 90, 75}, {150, 150, 150, 150}, {199, 201, 203, 205}, {400, 400, 400, 401}},
		Alone: 75, Third: 33, Down: 25,
		Bands: []api.Band{{Days: 3, Part: 100}, {Days: 14, Part: 60}, {Days: 30, Part: 20}},
	}
}

// sailing with bookings.
func sailing(l ...api.Booking) api.Sailing {
	return api.Sailing{Ship: liner(), Fares: tariff(), Day: 5, Leaves: 40, Bookings: l}
}

// closed sailing with bookings.
func closed(l ...api.Booking) api.Sailing {
	s := sailing(l...)
	s.Closed = true
	return s
}

// on a day.
func on(day int, s api.Sailing) api.Sailing {
	s.Day = day
	return s
}

// named booking, sure.
func named(id, cabin, guests, from, to int) api.Booking {
	return api.Booking{Id: id, Kind: api.KindNamed, State: api.StateSure, Guests: guests, Cabin: cabin, Span: api.Span{From: from, To: to}}
}

// promise that has no cabin yet, sure.
func promise(id, category, guests int) api.Booking {
	return api.Booking{Id: id, Kind: api.KindPromise, State: api.StateSure, Guests: guests, Cabin: -1, Category: category, Span: api.Span{To: 4}}
}

// in a cabin: a booking that has it.
func in(cabin int, b api.Booking) api.Booking {
	b.Cabin = cabin
	return b
}

func gone(b api.Booking) api.Booking {
	b.State, b.Until = api.StateGone, 0
	return b
}

func option(b api.Booking, until int) api.Booking {
	b.State, b.Until = api.StateOption, until
	return b
}

func sure(b api.Booking) api.Booking {
	b.State, b.Until = api.StateSure, 0
	return b
}

func level(b api.Booking) api.Booking {
	b.Level = true
	return b
}

func with(b api.Booking, l ...api.Entry) api.Booking {
	b.Folio = l
	return b
}

// entries of a folio.
func fare(day, n int) api.Entry { return api.Entry{Day: day, Kind: api.EntryFare, Amount: n} }

func paid(day, n int) api.Entry { return api.Entry{Day: day, Kind: api.EntryPaid, Amount: -n} }

func penalty(day, n int) api.Entry { return api.Entry{Day: day, Kind: api.EntryPenalty, Amount: n} }

func back(day, n int) api.Entry { return api.Entry{Day: day, Kind: api.EntryBack, Amount: n} }

// fares: so many entries of one unit each.
func fares(n int) []api.Entry {
	var l []api.Entry
	for range n {
		l = append(l, fare(1, 1))
	}
	return l
}

// busy: a sailing that is right, with bookings of all sorts.
func busy() api.Sailing {
	return sailing(
		with(named(10, 0, 2, 0, 2), fare(2, 440), paid(3, 40)),
		with(option(named(11, 0, 1, 2, 4), 9), fare(4, 289)),
		with(promise(12, 0, 2), fare(5, 770)),
		with(option(promise(13, 1, 3), 0), fare(5, 1398), paid(5, 98)),
		gone(in(4, promise(14, 3, 4))),
		with(gone(named(15, 0, 2, 0, 4)), fare(1, 50), back(1, -50), penalty(1, 10)),
		gone(promise(16, 3, 4)),
	)
}

// kept: the same, closed.
func kept() api.Sailing {
	s := busy()
	s.Closed, s.Bookings[2].Cabin, s.Bookings[3].Cabin = true, 1, 2
	return s
}

// one of the changes, with all that it is asked.
type one func(s api.Sailing, id int) (api.Sailing, api.Errno)

func pay(amount int) one {
	return func(s api.Sailing, id int) (api.Sailing, api.Errno) { return change.Pay(s, id, amount) }
}

func move(cabin int) one {
	return func(s api.Sailing, id int) (api.Sailing, api.Errno) { return change.Move(s, id, cabin) }
}

// wants that a change leaves one booking as it says, and all else as it was; or an error, with which nothing comes.
func wants(t *testing.T, what string, do one, s api.Sailing, id int, want api.Booking, e api.Errno) {
	t.Helper()
	var right api.Sailing
	if e == api.OK {
		right = s
		right.Bookings = nil
		for _, b := range s.Bookings {
			if b.Id == id {
				b = want
			}
			right.Bookings = append(right.Bookings, b)
		}
	}
	next, f := do(s, id)
	if fmt.Sprint(next) != fmt.Sprint(right) || f != e {
		t.Errorf("%s: %v, %d, not %v, %d", what, next, f, right, e)
	}
	if e != api.OK && !reflect.DeepEqual(next, api.Sailing{}) {
		t.Errorf("%s: with %d comes %v", what, f, next)
	}
}

// TestJ1All: what is told of all changes, ahead of anything else that is wrong.
func TestJ1All(t *testing.T) {
	twice, crowded, full, late := busy(), busy(), busy(), busy()
	twice.Bookings[0].Span.To = 3
	crowded.Ship.Souls = 6
	full.Bookings[2].Category, full.Bookings[3].Category = 3, 3
	late.Day = -1
	for _, c := range []struct {
		name string
		do   one
	}{{"Sure", change.Sure}, {"Pay", pay(1)}, {"Pay 0", pay(0)}, {"Pay too much", pay(99999)}, {"Cancel", change.Cancel}, {"Move", move(1)}, {"Move to none", move(-1)}, {"Move to where it is", move(0)}} {
		for _, id := range []int{10, 11, 12, 14, 0, 99} {
			wants(t, c.name+" nothing", c.do, api.Sailing{}, id, api.Booking{}, api.ErrRange)
			wants(t, c.name+" late", c.do, late, id, api.Booking{}, api.ErrRange)
			wants(t, c.name+" twice", c.do, twice, id, api.Booking{}, api.ErrTwice)
			wants(t, c.name+" crowded", c.do, crowded, id, api.Booking{}, api.ErrMany)
			wants(t, c.name+" full", c.do, full, id, api.Booking{}, api.ErrFull)
		}
		for _, id := range []int{14, 15, 16, 0, -1, 9, 17, 999999, 1000000, math.MinInt, math.MaxInt} {
			wants(t, fmt.Sprint(c.name, " of none: ", id), c.do, busy(), id, api.Booking{}, api.ErrNone)
		}
		wants(t, c.name+" of none at all", c.do, sailing(), 1, api.Booking{}, api.ErrNone)
	}
}

func TestJ1Sure(t *testing.T) {
	for _, c := range []struct {
		name string
		s    api.Sailing
		id   int
		e    api.Errno
	}{
		{"named", busy(), 11, api.OK},
		{"promise, till day 0", busy(), 13, api.OK},
		{"sure", busy(), 10, api.ErrState},
		{"sure promise", busy(), 12, api.ErrState},
		{"closed", kept(), 13, api.OK},
		{"behind its Until", on(10, busy()), 11, api.OK},
		{"it has left", on(40, busy()), 11, api.OK},
	} {
		var want api.Booking
		for _, b := range c.s.Bookings {
			if b.Id == c.id {
				want = sure(b)
			}
		}
		wants(t, c.name, change.Sure, c.s, c.id, want, c.e)
	}
}

func TestJ1Pay(t *testing.T) {
	most := with(named(1, 4, 1, 0, 1), fare(1, 100000000))
	eleven := with(named(1, 4, 1, 0, 1), fares(11)...)
	twelve := with(named(1, 4, 1, 0, 1), fares(12)...)
	tomorrow := with(named(1, 4, 1, 0, 1), fare(6, 10))
	mine := with(named(1, 4, 1, 0, 1), fare(1, 10), back(1, -20))
	for _, c := range []struct {
		name   string
		s      api.Sailing
		id     int
		amount int
		want   []api.Entry
		e      api.Errno
	}{
		{"some", busy(), 10, 1, []api.Entry{fare(2, 440), paid(3, 40), paid(5, 1)}, api.OK},
		{"all", busy(), 10, 400, []api.Entry{fare(2, 440), paid(3, 40), paid(5, 400)}, api.OK},
		{"too much", busy(), 10, 401, nil, api.ErrState},
		{"an option", busy(), 11, 289, []api.Entry{fare(4, 289), paid(5, 289)}, api.OK},
		{"a promise", busy(), 12, 770, []api.Entry{fare(5, 770), paid(5, 770)}, api.OK},
		{"closed", kept(), 13, 1300, []api.Entry{fare(5, 1398), paid(5, 98), paid(5, 1300)}, api.OK},
		{"on a later day", on(39, busy()), 10, 7, []api.Entry{fare(2, 440), paid(3, 40), paid(39, 7)}, api.OK},
		{"it has left", on(50, busy()), 10, 7, []api.Entry{fare(2, 440), paid(3, 40), paid(50, 7)}, api.OK},
		{"nothing", busy(), 10, 0, nil, api.ErrRange},
		{"less than nothing", busy(), 10, -1, nil, api.ErrRange},
		{"least", busy(), 10, math.MinInt, nil, api.ErrRange},
		{"more than any", busy(), 10, 100000001, nil, api.ErrRange},
		{"greatest", busy(), 10, math.MaxInt, nil, api.ErrRange},
		{"the most, which is too much", busy(), 10, 100000000, nil, api.ErrState},
		{"the most", sailing(most), 1, 100000000, []api.Entry{fare(1, 100000000), paid(5, 100000000)}, api.OK},
		{"where nothing is owed", sailing(named(1, 4, 1, 0, 1)), 1, 1, nil, api.ErrState},
		{"where the guest is owed", sailing(mine), 1, 1, nil, api.ErrState},
		{"range ahead of owed", sailing(mine), 1, 0, nil, api.ErrRange},
		{"twelfth entry", sailing(eleven), 1, 1, append(fares(11), paid(5, 1)), api.OK},
		{"thirteenth entry", sailing(twelve), 1, 1, nil, api.ErrMany},
		{"thirteenth entry, all", sailing(twelve), 1, 12, nil, api.ErrMany},
		{"owed ahead of many", sailing(twelve), 1, 13, nil, api.ErrState},
		{"range ahead of many", sailing(twelve), 1, 0, nil, api.ErrRange},
		{"a day ahead of the last one", sailing(tomorrow), 1, 1, nil, api.ErrState},
		{"the day of the last one", on(6, sailing(tomorrow)), 1, 1, []api.Entry{fare(6, 10), paid(6, 1)}, api.OK},
	} {
		var want api.Booking
		for _, b := range c.s.Bookings {
			if b.Id == c.id {
				want = with(b, c.want...)
			}
		}
		wants(t, c.name, pay(c.amount), c.s, c.id, want, c.e)
	}
}

func TestJ1Move(t *testing.T) {
	for _, c := range []struct {
		name  string
		s     api.Sailing
		id    int
		cabin int
		e     api.Errno
	}{
		{"named", busy(), 10, 1, api.OK},
		{"higher", busy(), 10, 4, api.OK},
		{"where one is gone", busy(), 11, 4, api.OK},
		{"an option", busy(), 11, 3, api.OK},
		{"it has left", on(50, busy()), 10, 3, api.OK},
		{"lower", sailing(named(1, 4, 2, 0, 1)), 1, 0, api.OK},
		{"kept promise", kept(), 12, 3, api.OK},
		{"kept promise, higher", kept(), 13, 4, api.OK},
		{"named, closed", kept(), 10, 3, api.OK},
		{"side by side", sailing(named(1, 0, 1, 0, 2), named(2, 1, 1, 2, 4)), 1, 1, api.OK},
		{"open promise", busy(), 12, 4, api.ErrState},
		{"open promise to none", busy(), 12, 5, api.ErrState},
		{"open promise to where it is", busy(), 12, -1, api.ErrState},
		{"no cabin", busy(), 10, -1, api.ErrRange},
		{"no such cabin", busy(), 10, 5, api.ErrRange},
		{"least", busy(), 10, math.MinInt, api.ErrRange},
		{"greatest", busy(), 10, math.MaxInt, api.ErrRange},
		{"to where it is", busy(), 10, 0, api.ErrTwice},
		{"kept promise to where it is", kept(), 12, 1, api.ErrTwice},
		{"for fewer guests", sailing(named(1, 1, 4, 0, 1)), 1, 2, api.ErrState},
		{"not level", sailing(level(named(1, 4, 1, 0, 1))), 1, 1, api.ErrState},
		{"level", sailing(level(named(1, 4, 1, 0, 1))), 1, 2, api.OK},
		{"kept promise, lower", kept(), 13, 1, api.ErrState},
		{"kept promise, of another category", kept(), 13, 3, api.ErrState},
		{"for fewer guests ahead of had", sailing(named(1, 1, 4, 0, 1), named(2, 2, 1, 0, 1)), 1, 2, api.ErrState},
		{"had", sailing(named(1, 0, 1, 0, 2), named(2, 1, 1, 1, 4)), 1, 1, api.ErrTwice},
		{"had by an option", sailing(named(1, 0, 1, 0, 2), option(named(2, 1, 1, 1, 4), 9)), 1, 1, api.ErrTwice},
		{"had by a promise", kept(), 10, 1, api.ErrTwice},
		{"had ahead of promised", sailing(named(1, 0, 1, 0, 2), named(2, 1, 1, 1, 4), promise(3, 3, 1)), 1, 1, api.ErrTwice},
		{"promised", sailing(named(1, 0, 1, 0, 2), promise(3, 3, 1)), 1, 4, api.ErrFull},
		{"promised, on any leg", sailing(named(1, 0, 1, 3, 4), option(promise(3, 3, 1), 9)), 1, 4, api.ErrFull},
		{"promised to one that is gone", sailing(named(1, 0, 1, 0, 2), gone(promise(3, 3, 1))), 1, 4, api.OK},
		{"the cabin that is left keeps a promise", sailing(named(1, 0, 1, 0, 4), named(2, 1, 1, 0, 4), named(3, 2, 1, 0, 4), named(4, 3, 1, 0, 4), promise(5, 0, 1)), 1, 4, api.OK},
	} {
		var want api.Booking
		for _, b := range c.s.Bookings {
			if b.Id == c.id {
				want = in(c.cabin, b)
			}
		}
		wants(t, c.name, move(c.cabin), c.s, c.id, want, c.e)
	}
}
