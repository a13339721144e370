package voyage_test

import (
	"fmt"
	"reflect"
	"slices"
	"testing"

	"taffrail/api"
	"taffrail/stock"
	"taffrail/voyage"
)

// Categories of the ferry: a suite serves who paid for outside, that who paid for inside, and that who paid for a bunk.
const (
	inside = iota
	outside
	suite
	bunk
)

// Cabins of the ferry.
const (
	i2 = iota // inside, for two
	i4        // inside, for four
	o2        // outside, for two, level
	o3        // outside, for three
	s4        // suite, for four, level
)

const none = -1

// ferry is a sailing that is right, on day 5, with bookings; each call makes it anew, so that a test may spoil it.
func ferry(l ...api.Booking) api.Sailing {
	return api.Sailing{
		Ship: api.Ship{
			Legs: 3, Souls: 20,
			Categories: []api.Category{
				inside:  {Name: "INSIDE", Higher: []int{outside}},
				outside: {Name: "OUTSIDE", Higher: []int{suite}},
				suite:   {Name: "SUITE"},
				bunk:    {Name: "BUNK", Higher: []int{inside}},
			},
			Cabins: []api.Cabin{
				i2: {Name: "I2", Category: inside, Berths: 2},
				i4: {Name: "I4", Category: inside, Berths: 4},
				o2: {Name: "O2", Category: outside, Berths: 2, Level: true},
				o3: {Name: "O3", Category: outside, Berths: 3},
				s4: {Name: "S4", Category: suite, Berths: 4, Level: true},
			},
		},
		Fares: api.Fares{
			Leg:   [][]int{{10, 20, 30}, {20, 30, 40}, {50, 60, 70}, {1, 2, 3}},
			Bands: []api.Band{{Days: 10, Part: 100}, {Days: 999, Part: 50}},
		},
		Day: 5, Leaves: 30, Bookings: l,
	}
}

func closed(s api.Sailing) api.Sailing {
	s.Closed = true
	return s
}

func on(day int, s api.Sailing) api.Sailing {
	s.Day = day
	return s
}

// guest of a cabin for some legs, sure.
func guest(id, cabin, from, to int, l ...api.Entry) api.Booking {
	return api.Booking{Id: id, Kind: api.KindNamed, State: api.StateSure, Guests: 1, Cabin: cabin, Span: api.Span{From: from, To: to}, Folio: l}
}

// word that was given to so many guests of a category, sure; a cabin may keep it.
func word(id, category, guests, cabin int, l ...api.Entry) api.Booking {
	return api.Booking{Id: id, Kind: api.KindPromise, State: api.StateSure, Guests: guests, Cabin: cabin, Category: category, Span: api.Span{To: 3}, Folio: l}
}

func option(until int, b api.Booking) api.Booking {
	b.State, b.Until = api.StateOption, until
	return b
}

func level(b api.Booking) api.Booking {
	b.Level = true
	return b
}

// gone, with what comes behind its folio.
func gone(b api.Booking, come ...api.Entry) api.Booking {
	b.State, b.Until, b.Folio = api.StateGone, 0, slices.Concat(b.Folio, come)
	return b
}

func entry(kind int) func(day, n int) api.Entry {
	return func(day, n int) api.Entry { return api.Entry{Day: day, Kind: kind, Amount: n} }
}

var (
	fare    = entry(api.EntryFare)
	paid    = entry(api.EntryPaid)
	penalty = entry(api.EntryPenalty)
	back    = entry(api.EntryBack)
)

// units: fares of so many entries of one unit each.
func units(n int) []api.Entry { return slices.Repeat([]api.Entry{fare(1, 1)}, n) }

// turns holds what Turn answers.
func turns(t *testing.T, what string, s api.Sailing, day int, want api.Sailing, ids []int, e api.Errno) {
	t.Helper()
	next, l, f := voyage.Turn(s, day)
	if fmt.Sprint(next) != fmt.Sprint(want) || fmt.Sprint(l) != fmt.Sprint(ids) || f != e {
		t.Errorf("%s, to %d: %v, %v, %d, not %v, %v, %d", what, day, next, l, f, want, ids, e)
	}
	if e != api.OK && (!reflect.DeepEqual(next, api.Sailing{}) || l != nil) {
		t.Errorf("%s, to %d: with %d comes %v, %v", what, day, f, next, l)
	}
}

// closes holds what Close answers.
func closes(t *testing.T, what string, s, want api.Sailing, e api.Errno) {
	t.Helper()
	next, f := voyage.Close(s)
	if fmt.Sprint(next) != fmt.Sprint(want) || f != e {
		t.Errorf("%s: %v, %d, not %v, %d", what, next, f, want, e)
	}
	if e != api.OK && !reflect.DeepEqual(next, api.Sailing{}) {
		t.Errorf("%s: with %d comes %v", what, f, next)
	}
}

// plans holds what Plan answers.
func plans(t *testing.T, what string, s api.Sailing, want []api.Edge, e api.Errno) {
	t.Helper()
	if l, f := voyage.Plan(s); fmt.Sprint(l) != fmt.Sprint(want) || f != e {
		t.Errorf("%s: %v, %d, not %v, %d", what, l, f, want, e)
	}
}

// TestWrong: a sailing that is not right is told of ahead of all else.
func TestWrong(t *testing.T) {
	for want, s := range map[api.Errno]api.Sailing{
		api.ErrForm:  ferry(option(1, guest(1, i2, 0, 1)), api.Booking{Id: 2, Kind: api.KindNamed, State: api.StateSure, Guests: 1, Category: 1, Span: api.Span{To: 1}}),
		api.ErrMany:  ferry(slices.Repeat([]api.Booking{guest(1, i2, 0, 1)}, 17)...),
		api.ErrRange: {},
		api.ErrState: ferry(option(1, word(1, inside, 1, i2))),
		api.ErrNone:  {Ship: api.Ship{Legs: 1, Souls: 1}},
		api.ErrTwice: ferry(option(1, guest(1, i2, 0, 2)), guest(2, i2, 1, 3)),
		api.ErrKind:  ferry(api.Booking{}),
		api.ErrFull:  ferry(option(1, word(1, suite, 1, none)), word(2, suite, 1, none)),
	} {
		for _, s := range []api.Sailing{s, on(9999, s)} {
			for _, day := range []int{-1, 0, 5, 9, 9999, 10000} {
				turns(t, "wrong", s, day, api.Sailing{}, nil, want)
			}
			closes(t, "wrong", s, api.Sailing{}, want)
			plans(t, "wrong", s, nil, want)
		}
	}
	crossed := closed(ferry(word(1, inside, 1, none)))
	turns(t, "closed, but open", crossed, -1, api.Sailing{}, nil, api.ErrState)
	closes(t, "closed, but open", crossed, api.Sailing{}, api.ErrState)
	plans(t, "closed, but open", crossed, nil, api.ErrState)
	late := ferry()
	late.Day = 10000
	turns(t, "behind all days", late, 5, api.Sailing{}, nil, api.ErrRange)
	twice := closed(ferry(guest(1, i2, 0, 2), guest(2, i2, 1, 3)))
	closes(t, "closed, with a cabin that two have", twice, api.Sailing{}, api.ErrTwice)
}

func TestK2Plan(t *testing.T) {
	for _, c := range []struct {
		name string
		s    api.Sailing
		want []api.Edge
	}{
		{"nobody", ferry(), nil},
		{"guests", ferry(guest(3, s4, 0, 1), guest(7, i2, 0, 3), guest(999999, s4, 1, 3)), []api.Edge{{Left: 3, Right: s4}, {Left: 7, Right: i2}, {Left: 999999, Right: s4}}},
		{"an option", ferry(option(0, guest(3, o2, 0, 1))), []api.Edge{{Left: 3, Right: o2}}},
		{"gone", ferry(gone(guest(3, s4, 0, 1)), guest(4, i4, 1, 2), gone(word(5, inside, 1, i2))), []api.Edge{{Left: 4, Right: i4}}},
		{"promises that are open", ferry(word(1, inside, 1, none), guest(2, i2, 0, 1), option(9, word(3, suite, 1, none))), []api.Edge{{Left: 2, Right: i2}}},
		{"promises that are kept", closed(ferry(word(1, inside, 1, s4), guest(2, i2, 0, 1), option(9, word(3, outside, 1, o3)), gone(word(4, suite, 1, none)))),
			[]api.Edge{{Left: 1, Right: s4}, {Left: 2, Right: i2}, {Left: 3, Right: o3}}},
		{"the day does not matter", on(9999, ferry(option(7, guest(1, i2, 0, 1)))), []api.Edge{{Left: 1, Right: i2}}},
	} {
		plans(t, c.name, c.s, c.want, api.OK)
	}
}

// pack: a sailing with as many of all as there may be, each option till its own day.
func pack() api.Sailing {
	s := ferry()
	s.Ship.Cabins = nil
	for i := range api.MaxCabins {
		s.Ship.Cabins = append(s.Ship.Cabins, api.Cabin{Name: fmt.Sprint("C", i), Category: i % 4, Berths: 4, Level: true})
	}
	for i := range api.MaxBookings {
		b := option(5+i, word(1+i, bunk, 1, none, fare(5, 6)))
		if i >= api.MaxCabins {
			b = gone(b)
		}
		s.Bookings = append(s.Bookings, b)
	}
	return s
}

// TestMost: as many options as there may be go, and as many promises as there may be are kept.
func TestMost(t *testing.T) {
	s, want, ids, plan := pack(), on(9999, pack()), []int(nil), []api.Edge(nil)
	for i := range api.MaxCabins {
		want.Bookings[i] = gone(want.Bookings[i], back(9999, -6))
		ids = append(ids, 1+i)
	}
	turns(t, "all go", s, 9999, want, ids, api.OK)
	want = closed(pack())
	for i := range api.MaxCabins {
		want.Bookings[i].Cabin = i
		plan = append(plan, api.Edge{Left: 1 + i, Right: i})
	}
	closes(t, "all are kept", s, want, api.OK)
	plans(t, "all are kept", want, plan, api.OK)
	for i := range api.MaxBookings {
		s.Bookings[i] = option(1, guest(1+i, i%api.MaxCabins, i/api.MaxCabins, i/api.MaxCabins+1))
	}
	next, all, e := voyage.Turn(s, 6)
	if left, f := voyage.Plan(next); len(all) != api.MaxBookings || e != api.OK || len(left) != 0 || f != api.OK {
		t.Errorf("of all %v go, %d, and %v are left, %d", all, e, left, f)
	}
}

// places where lists of a sailing lie, with the room behind them: how often each was met.
type places map[any]int

func note[T any](m places, l []T) {
	l = l[:cap(l)]
	for i := range l {
		m[&l[i]]++
	}
}

func (m places) sailing(s api.Sailing) {
	note(m, s.Ship.Categories)
	note(m, s.Ship.Cabins)
	note(m, s.Fares.Leg)
	note(m, s.Fares.Bands)
	note(m, s.Bookings)
	for _, c := range s.Ship.Categories {
		note(m, c.Higher)
	}
	for _, l := range s.Fares.Leg {
		note(m, l)
	}
	for _, b := range s.Bookings {
		note(m, b.Folio)
	}
}

func (m places) shared() int {
	n := 0
	for _, times := range m {
		if times > 1 {
			n++
		}
	}
	return n
}

// roomy list: the same, with something in the room behind it.
func roomy[T any](l []T, x T) []T { return append(slices.Clone(l), x, x)[:len(l)] }

// spare: a sailing, all lists of which are roomy.
func spare() api.Sailing {
	s := ferry(option(6, guest(1, i2, 0, 1, fare(5, 10), paid(5, -4))), word(2, inside, 2, none, fare(5, 120)), option(6, word(3, suite, 1, none, fare(5, 180))), option(6, guest(4, o3, 0, 3, fare(9, 90))))
	for i := range s.Bookings {
		s.Bookings[i].Folio = roomy(s.Bookings[i].Folio, fare(77, 77))
	}
	for i := range s.Fares.Leg {
		s.Fares.Leg[i] = roomy(s.Fares.Leg[i], 77)
		s.Ship.Categories[i].Higher = roomy(s.Ship.Categories[i].Higher, 77)
	}
	s.Bookings = roomy(s.Bookings, api.Booking{Id: 77})
	s.Ship.Categories = roomy(s.Ship.Categories, api.Category{Name: "77"})
	s.Ship.Cabins = roomy(s.Ship.Cabins, api.Cabin{Name: "77"})
	s.Fares.Leg = roomy(s.Fares.Leg, []int{77})
	s.Fares.Bands = roomy(s.Fares.Bands, api.Band{Days: 77})
	return s
}

// whole: all that lies in a sailing's lists, the room behind them too.
func whole(s api.Sailing) string {
	out := fmt.Sprint(s, s.Ship.Categories[:cap(s.Ship.Categories)], s.Ship.Cabins[:cap(s.Ship.Cabins)], s.Fares.Leg[:cap(s.Fares.Leg)], s.Fares.Bands[:cap(s.Fares.Bands)], s.Bookings[:cap(s.Bookings)])
	for _, b := range s.Bookings {
		out += fmt.Sprint(b.Folio[:cap(b.Folio)])
	}
	for i, l := range s.Fares.Leg {
		h := s.Ship.Categories[i].Higher
		out += fmt.Sprint(l[:cap(l)], h[:cap(h)])
	}
	return out
}

// TestP2: what is handed in stays as it was; an answer is new memory.
func TestP2(t *testing.T) {
	for name, do := range map[string]func(api.Sailing) (api.Sailing, any, api.Errno){
		"Turn": func(s api.Sailing) (api.Sailing, any, api.Errno) {
			next, l, e := voyage.Turn(s, 7)
			return next, l, e
		},
		"Turn, and none goes": func(s api.Sailing) (api.Sailing, any, api.Errno) {
			next, l, e := voyage.Turn(s, 6)
			return next, l, e
		},
		"Close": func(s api.Sailing) (api.Sailing, any, api.Errno) {
			next, e := voyage.Close(s)
			return next, nil, e
		},
		"Plan": func(s api.Sailing) (api.Sailing, any, api.Errno) {
			l, e := voyage.Plan(s)
			return api.Sailing{}, l, e
		},
	} {
		s := spare()
		next, l, e := do(s)
		if whole(s) != whole(spare()) || e != api.OK {
			t.Errorf("%s: what was handed in is %s, %d", name, whole(s), e)
		}
		m := places{}
		m.sailing(s)
		m.sailing(next)
		if n := m.shared(); n != 0 {
			t.Errorf("%s: %d places are shared", name, n)
		}
		was := fmt.Sprint(next, l)
		s.Bookings[0] = api.Booking{}
		s.Bookings[1].Folio[0].Amount, s.Ship.Cabins[0].Name, s.Fares.Leg[1][1] = 1, "", -1
		if fmt.Sprint(next, l) != was {
			t.Errorf("%s: a later change is seen: %v %v", name, next, l)
		}
	}
}

// TestP3: the same each time, whatever was asked between.
func TestP3(t *testing.T) {
	s := ferry(option(6, guest(1, i2, 0, 1)), word(2, inside, 2, none))
	for range 50 {
		turns(t, "again", s, 9, on(9, ferry(gone(guest(1, i2, 0, 1)), word(2, inside, 2, none))), []int{1}, api.OK)
		closes(t, "again", s, closed(ferry(option(6, guest(1, i2, 0, 1)), word(2, inside, 2, i4))), api.OK)
		turns(t, "again", s, 5, api.Sailing{}, nil, api.ErrState)
		closes(t, "again", closed(ferry()), api.Sailing{}, api.ErrState)
		plans(t, "again", s, []api.Edge{{Left: 1, Right: i2}}, api.OK)
		if e := stock.Check(s); e != api.OK {
			t.Fatalf("what was handed in is not right: %d", e)
		}
	}
}
