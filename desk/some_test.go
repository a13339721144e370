package desk_test

import (
	"fmt"
	"reflect"
	"slices"
	"testing"

	"taffrail/api"
	"taffrail/desk"
)

// Categories of the packet: a suite serves who paid for outside, and that who paid for inside.
const (
	inside = iota
	outside
	suite
)

// Cabins of the packet.
const (
	i2 = iota // inside, for two
	i3        // inside, for three, level
	o4        // outside, for four, level
	s2        // suite, for two
)

const none = -1

// packet is a sailing that is right, on day 10, with bookings; each call makes it anew, so that a test may spoil it.
func packet(l ...api.Booking) api.Sailing {
	return api.Sailing{
		Ship: api.Ship{
			Legs: 3, Souls: 9,
			Categories: []api.Category{
				inside:  {Name: "INSIDE", Higher: []int{outside}},
				outside: {Name: "OUTSIDE", Higher: []int{suite}},
				suite:   {Name: "SUITE"},
			},
			Cabins: []api.Cabin{
				i2: {Name: "I2", Category: inside, Berths: 2},
				i3: {Name: "I3", Category: inside, Berths: 3, Level: true},
				o4: {Name: "O4", Category: outside, Berths: 4, Level: true},
				s2: {Name: "S2", Category: suite, Berths: 2},
			},
		},
		Fares: api.Fares{
			Leg:   [][]int{{10, 20, 30}, {20, 40, 60}, {100, 100, 100}},
			Alone: 50, Third: 30, Down: 20,
			Bands: []api.Band{{Days: 5, Part: 100}, {Days: 20, Part: 50}},
		},
		Day: 10, Leaves: 40, Bookings: l,
	}
}

func closed(s api.Sailing) api.Sailing {
	s.Closed = true
	return s
}

func on(day int, s api.Sailing) api.Sailing {
	s.Day = day
	return s
}

// guests of a cabin for some legs, sure.
func guests(n, id, cabin, from, to int, l ...api.Entry) api.Booking {
	return api.Booking{Id: id, Kind: api.KindNamed, State: api.StateSure, Guests: n, Cabin: cabin, Span: api.Span{From: from, To: to}, Folio: l}
}

// promise of a category to so many guests, sure; a cabin may keep it.
func promise(n, id, category, cabin int, l ...api.Entry) api.Booking {
	return api.Booking{Id: id, Kind: api.KindPromise, State: api.StateSure, Guests: n, Cabin: cabin, Category: category, Span: api.Span{To: 3}, Folio: l}
}

func option(until int, b api.Booking) api.Booking {
	b.State, b.Until = api.StateOption, until
	return b
}

func level(b api.Booking) api.Booking {
	b.Level = true
	return b
}

// gone, with what comes behind its folio.
func gone(b api.Booking, come ...api.Entry) api.Booking {
	b.State, b.Until, b.Folio = api.StateGone, 0, slices.Concat(b.Folio, come)
	return b
}

func fee(day, n int) api.Entry     { return api.Entry{Day: day, Kind: api.EntryFare, Amount: n} }
func paid(day, n int) api.Entry    { return api.Entry{Day: day, Kind: api.EntryPaid, Amount: -n} }
func penalty(day, n int) api.Entry { return api.Entry{Day: day, Kind: api.EntryPenalty, Amount: n} }
func back(day, n int) api.Entry    { return api.Entry{Day: day, Kind: api.EntryBack, Amount: n} }

// Requests; each has the Number that is handed in.
func askNamed(number, n, id, cabin, from, to, until int) api.Ask {
	return api.Ask{Number: number, Kind: api.AskNamed, Guests: n, Id: id, Cabin: cabin, Span: api.Span{From: from, To: to}, Until: until}
}

func askPromise(number, n, id, category, until int) api.Ask {
	return api.Ask{Number: number, Kind: api.AskPromise, Guests: n, Id: id, Category: category, Until: until}
}

func askSure(number, id int) api.Ask {
	return api.Ask{Number: number, Kind: api.AskSure, Id: id}
}

func askPay(number, id, amount int) api.Ask {
	return api.Ask{Number: number, Kind: api.AskPay, Id: id, Amount: amount}
}

func askCancel(number, id int) api.Ask {
	return api.Ask{Number: number, Kind: api.AskCancel, Id: id}
}

func askMove(number, id, cabin int) api.Ask {
	return api.Ask{Number: number, Kind: api.AskMove, Id: id, Cabin: cabin}
}

func askDay(number, day int) api.Ask {
	return api.Ask{Number: number, Kind: api.AskDay, Until: day}
}

func askClose(number int) api.Ask {
	return api.Ask{Number: number, Kind: api.AskClose}
}

func askLevel(a api.Ask) api.Ask {
	a.Level = true
	return a
}

// same: an empty list is as good as none.
func same(a, b any) bool { return fmt.Sprint(a) == fmt.Sprint(b) }

// isZero: of a list not even an empty one.
func isZero(x any) bool { return reflect.ValueOf(x).IsZero() }

// does holds what Do answers.
func does(t *testing.T, what string, s api.Sailing, a api.Ask, want api.Sailing, answer api.Answer) {
	t.Helper()
	next, said, e := desk.Do(s, a)
	if !same(next, want) || said != answer || e != api.OK {
		t.Errorf("%s, %v: %v, %v, %d, not %v, %v", what, a, next, said, e, want, answer)
	}
}

// refuses: Do answers an error, and nothing else.
func refuses(t *testing.T, what string, s api.Sailing, a api.Ask, want api.Errno) {
	t.Helper()
	next, said, e := desk.Do(s, a)
	if e != want || !isZero(next) || !isZero(said) {
		t.Errorf("%s, %v: %v, %v, %d, not %d", what, a, next, said, e, want)
	}
}

// where the lists of some values lie: how many bytes lie in two of them, the room behind them too.
func where(l ...any) int {
	met := map[uintptr]int{}
	var see func(v reflect.Value)
	see = func(v reflect.Value) {
		switch v.Kind() {
		case reflect.Struct:
			for i := range v.NumField() {
				see(v.Field(i))
			}
		case reflect.Slice:
			for i := range uintptr(v.Cap()) * v.Type().Elem().Size() {
				met[v.Pointer()+i]++
			}
			for i := range v.Len() {
				see(v.Index(i))
			}
		}
	}
	for _, x := range l {
		see(reflect.ValueOf(x))
	}
	twice := 0
	for _, n := range met {
		if n > 1 {
			twice++
		}
	}
	return twice
}
