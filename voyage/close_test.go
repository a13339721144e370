package voyage_test

import (
	"testing"

	"taffrail/api"
	"taffrail/stock"
	"taffrail/voyage"
)

// cabinsOf: with the cabins that bookings, one by one, have.
func cabinsOf(s api.Sailing, l ...int) api.Sailing {
	s.Bookings = append([]api.Booking(nil), s.Bookings...)
	for i, cabin := range l {
		s.Bookings[i].Cabin = cabin
	}
	return s
}

func TestK2Close(t *testing.T) {
	for _, c := range []struct {
		name   string
		s      api.Sailing
		cabins []int
	}{
		{"nobody", ferry(), nil},
		{"guests alone", ferry(guest(1, i2, 0, 1), guest(2, s4, 0, 3)), []int{i2, s4}},
		{"one", ferry(word(1, inside, 1, none)), []int{i2}},
		{"one, of a category", ferry(word(1, outside, 1, none)), []int{o2}},
		{"one, of the highest", ferry(word(1, suite, 1, none)), []int{s4}},
		{"one, of the lowest", ferry(word(1, bunk, 1, none)), []int{i2}},
		{"many guests", ferry(word(1, bunk, 3, none)), []int{i4}},
		{"three of outside", ferry(word(1, outside, 3, none)), []int{o3}},
		{"four of outside", ferry(word(1, outside, 4, none)), []int{s4}},
		{"level", ferry(level(word(1, inside, 1, none))), []int{o2}},
		{"level, three", ferry(level(word(1, inside, 3, none))), []int{s4}},
		{"had on a leg", ferry(guest(1, i2, 2, 3), word(2, inside, 1, none)), []int{i2, i4}},
		{"had by an option", ferry(option(0, guest(1, i2, 0, 1)), word(2, inside, 1, none)), []int{i2, i4}},
		{"had by who is behind", ferry(word(1, inside, 1, none), guest(2, i2, 0, 1)), []int{i4, i2}},
		{"had by one that is gone", ferry(gone(guest(1, i2, 0, 3)), word(2, inside, 1, none)), []int{i2, i2}},
		{"had by a promise that is gone", ferry(gone(word(1, inside, 1, i2)), word(2, inside, 1, none)), []int{i2, i2}},
		{"a promise that is gone", ferry(gone(word(1, inside, 1, none)), word(2, inside, 1, none)), []int{none, i2}},
		{"an option", ferry(option(0, word(1, inside, 1, none)), word(2, inside, 1, none)), []int{i2, i4}},
		{"five", ferry(word(1, bunk, 1, none), word(2, bunk, 1, none), word(3, bunk, 1, none), word(4, bunk, 1, none), word(5, bunk, 1, none)), []int{i2, i4, o2, o3, s4}},
		{"the lesser number first", ferry(word(8, inside, 2, none), word(9, bunk, 2, none)), []int{i2, i4}},
		{"the first one is needed behind", ferry(word(1, inside, 1, none), word(2, outside, 1, none), guest(3, i4, 0, 1), guest(4, o3, 0, 1), guest(5, s4, 0, 1)), []int{i2, o2, i4, o3, s4}},
		{"who comes first stands back", ferry(word(1, outside, 1, none), level(word(2, outside, 2, none)), guest(3, s4, 1, 2)), []int{o3, o2, s4}},
		{"all stand back", ferry(word(1, inside, 2, none), word(2, inside, 2, none), word(3, inside, 4, none), guest(4, i2, 0, 1), guest(5, s4, 0, 1)), []int{o2, o3, i4, i2, s4}},
		{"the last one takes the first", ferry(word(1, inside, 4, none), word(2, inside, 4, none), word(3, inside, 2, none)), []int{i4, s4, i2}},
		{"no further back than need be", ferry(word(1, inside, 1, none), word(2, inside, 4, none), guest(3, i2, 0, 1), guest(4, s4, 0, 1)), []int{o2, i4, i2, s4}},
		{"it has left", on(9999, ferry(word(1, inside, 1, none))), []int{i2}},
	} {
		closes(t, c.name, c.s, closed(cabinsOf(c.s, c.cabins...)), api.OK)
		closes(t, c.name+", closed", closed(cabinsOf(c.s, c.cabins...)), api.Sailing{}, api.ErrState)
	}
}

// TestK2Example: two promises of an inside cabin can be kept, by it or the suite; the one of the lesser number has the inside cabin.
func TestK2Example(t *testing.T) {
	s := ferry(guest(1, 1, 1, 3), word(2, 0, 1, none), word(3, 0, 1, none))
	s.Ship.Categories = []api.Category{{Name: "IN", Higher: []int{1}}, {Name: "OUT", Higher: []int{2}}, {Name: "SUITE"}}
	s.Ship.Cabins = []api.Cabin{{Name: "I", Berths: 2}, {Name: "O", Category: 1, Berths: 2}, {Name: "S", Category: 2, Berths: 2}}
	s.Fares.Leg = s.Fares.Leg[:3]
	closes(t, "two", s, closed(cabinsOf(s, 1, 0, 2)), api.OK)
	s.Bookings = append(s.Bookings, word(4, 0, 1, none))
	closes(t, "three", s, api.Sailing{}, api.ErrFull)
}

// TestK3: what was closed is right, and turns and is planned as ever.
func TestK3(t *testing.T) {
	s := ferry(word(1, inside, 1, none), guest(2, i2, 0, 1), option(6, word(3, inside, 3, none, fare(5, 9))))
	next, e := voyage.Close(s)
	if e != api.OK || stock.Check(next) != api.OK {
		t.Fatalf("%v, %d", next, e)
	}
	plans(t, "closed", next, []api.Edge{{Left: 1, Right: i4}, {Left: 2, Right: i2}, {Left: 3, Right: o3}}, api.OK)
	want := closed(on(7, ferry(word(1, inside, 1, i4), guest(2, i2, 0, 1), gone(word(3, inside, 3, o3, fare(5, 9)), back(7, -9)))))
	turns(t, "closed", next, 7, want, []int{3}, api.OK)
	plans(t, "closed, and turned", want, []api.Edge{{Left: 1, Right: i4}, {Left: 2, Right: i2}}, api.OK)
}
