package desk_test

import (
	"fmt"
	"slices"
	"testing"

	"taffrail/api"
	"taffrail/desk"
)

// TestM1Sold: what comes with a request for a cabin, or a promise: sure without a day, else an option.
func TestM1Sold(t *testing.T) {
	other, last := guests(1, 5, i2, 0, 1, fee(3, 15)), guests(1, 999999, s2, 0, 1)
	for _, c := range []struct {
		name string
		a    api.Ask
		come api.Booking
		owed int
	}{
		{"a cabin", askNamed(1, 2, 7, o4, 1, 3, 0), guests(2, 7, o4, 1, 3, fee(10, 200)), 200},
		{"a cabin as an option", askNamed(2, 2, 7, o4, 1, 3, 12), option(12, guests(2, 7, o4, 1, 3, fee(10, 200))), 200},
		{"an option of the first day", askNamed(3, 1, 7, i2, 1, 2, 10), option(10, guests(1, 7, i2, 1, 2, fee(10, 30))), 30},
		{"an option of the last day", askNamed(65535, 1, 7, i3, 2, 3, 39), option(39, guests(1, 7, i3, 2, 3, fee(10, 45))), 45},
		{"a cabin that must be level", askLevel(askNamed(4, 3, 7, i3, 0, 2, 0)), level(guests(3, 7, i3, 0, 2, fee(10, 69))), 69},
		{"a suite, from port 1 on", askNamed(5, 2, 7, s2, 1, 3, 0), guests(2, 7, s2, 1, 3, fee(10, 400)), 400},
		{"a promise", askPromise(6, 3, 7, outside, 0), promise(3, 7, outside, none, fee(10, 276)), 276},
		{"a promise as an option", askPromise(7, 1, 7, inside, 39), option(39, promise(1, 7, inside, none, fee(10, 90))), 90},
		{"a promise that must be level", askLevel(askPromise(8, 4, 7, inside, 11)), level(option(11, promise(4, 7, inside, none, fee(10, 156)))), 156},
	} {
		does(t, c.name, packet(), c.a, packet(c.come), api.Answer{Owed: c.owed})
		does(t, c.name+", among others", packet(other, last), c.a, packet(other, c.come, last), api.Answer{Owed: c.owed})
	}
	kept := closed(packet(promise(1, 9, inside, i3)))
	does(t, "a cabin of a closed sailing", kept, askNamed(1, 2, 7, i2, 0, 3, 0), closed(packet(guests(2, 7, i2, 0, 3, fee(10, 120)), promise(1, 9, inside, i3))), api.Answer{Owed: 120})
}

// TestM1Changed: what becomes of a booking among others, and what it owes then.
func TestM1Changed(t *testing.T) {
	ahead, behind := guests(1, 2, i2, 0, 1, fee(3, 1000)), gone(guests(1, 12, o4, 0, 3, fee(3, 2000)))
	b := guests(2, 7, o4, 1, 3, fee(8, 200), paid(9, 50))
	p := option(30, promise(2, 7, inside, none, fee(8, 120), paid(9, 120)))
	over := guests(2, 7, o4, 1, 3, fee(8, 20), paid(9, 50))
	moved, kept := b, p
	moved.Cabin, kept.Cabin = s2, i3
	for _, c := range []struct {
		name      string
		day       int
		b         api.Booking
		a         api.Ask
		want      api.Booking
		owed      int
		isAllKept bool
	}{
		{"an option becomes sure", 10, option(10, b), askSure(1, 7), b, 150, false},
		{"an option behind its day becomes sure", 50, option(10, b), askSure(1, 7), b, 150, false},
		{"a promise becomes sure", 10, p, askSure(2, 7), promise(2, 7, inside, none, p.Folio...), 0, false},
		{"one unit is paid", 10, b, askPay(3, 7, 1), guests(2, 7, o4, 1, 3, fee(8, 200), paid(9, 50), paid(10, 1)), 149, false},
		{"all is paid", 11, b, askPay(4, 7, 150), guests(2, 7, o4, 1, 3, fee(8, 200), paid(9, 50), paid(11, 150)), 0, false},
		{"an option is paid for in part", 10, option(12, b), askPay(5, 7, 9), option(12, guests(2, 7, o4, 1, 3, fee(8, 200), paid(9, 50), paid(10, 9))), 141, false},
		{"cancelled early", 19, b, askCancel(6, 7), gone(b, back(19, -200), back(19, 50)), 0, false},
		{"cancelled for half", 20, b, askCancel(7, 7), gone(b, back(20, -200), penalty(20, 100)), 50, false},
		{"cancelled for all", 35, b, askCancel(8, 7), gone(b, back(35, -200), penalty(35, 200)), 150, false},
		{"a cancelled option", 35, p, askCancel(9, 7), gone(p, back(35, -120), back(35, 120)), 0, false},
		{"moved", 10, b, askMove(10, 7, s2), moved, 150, false},
		{"moved to the first cabin", 10, guests(1, 7, s2, 1, 2), askMove(11, 7, i2), guests(1, 7, i2, 1, 2), 0, false},
		{"moved, and the guest has something coming", 10, over, askMove(12, 7, s2), guests(2, 7, s2, 1, 3, over.Folio...), -30, false},
		{"sure, and the guest has something coming", 10, option(10, over), askSure(13, 7), over, -30, false},
		{"a promise that is kept is moved", 10, promise(2, 7, inside, i3, p.Folio...), askMove(14, 7, s2), promise(2, 7, inside, s2, p.Folio...), 0, true},
		{"a promise that is kept becomes sure", 10, kept, askSure(15, 7), promise(2, 7, inside, i3, p.Folio...), 0, true},
	} {
		s, want := on(c.day, packet(ahead, c.b, behind)), on(c.day, packet(ahead, c.want, behind))
		s.Closed, want.Closed = c.isAllKept, c.isAllKept
		does(t, c.name, s, c.a, want, api.Answer{Owed: c.owed})
	}
}

// TestM1Days: a day, and the last one: nothing is owed of them, whatever bookings owe.
func TestM1Days(t *testing.T) {
	b, p := guests(2, 7, o4, 1, 3, fee(8, 200)), promise(2, 8, inside, none, fee(8, 120))
	does(t, "the day", packet(b, p), askDay(1, 11), on(11, packet(b, p)), api.Answer{})
	does(t, "the last day", packet(b, p), askDay(2, 9999), on(9999, packet(b, p)), api.Answer{})
	does(t, "options that go", packet(option(11, b), option(12, p)), askDay(3, 12), on(12, packet(gone(b, back(12, -200)), option(12, p))), api.Answer{})
	does(t, "Close", packet(b, p), askClose(4), closed(packet(b, promise(2, 8, inside, i2, p.Folio...))), api.Answer{})
	does(t, "Close of one without bookings", packet(), askClose(65535), closed(packet()), api.Answer{})
	does(t, "the day of a closed one", closed(packet(b)), askDay(5, 41), on(41, closed(packet(b))), api.Answer{})
	does(t, "Close behind the last day", on(9999, packet(p)), askClose(6), on(9999, closed(packet(promise(2, 8, inside, i2, p.Folio...)))), api.Answer{})
}

// crowd: as many bookings as there may be, and one of them live.
func crowd() api.Sailing {
	s := packet(guests(1, 7, i2, 0, 1, fee(9, 15)))
	for i := len(s.Bookings); i < api.MaxBookings; i++ {
		s.Bookings = append(s.Bookings, gone(guests(1, 10+i, i2, 0, 1)))
	}
	return s
}

// TestM1Stays: with an errno the sailing stays as it was, and nothing is owed.
func TestM1Stays(t *testing.T) {
	open := packet(guests(2, 3, i2, 0, 2, fee(8, 60)), option(20, promise(2, 5, suite, none, fee(8, 600))), gone(guests(1, 6, o4, 0, 3, fee(8, 9))), option(20, guests(2, 8, o4, 0, 1, fee(12, 40))))
	kept := closed(packet(promise(2, 5, suite, s2, fee(8, 600)), guests(1, 8, i2, 0, 1, slices.Repeat([]api.Entry{fee(9, 1)}, 12)...)))
	for _, c := range []struct {
		s    api.Sailing
		want api.Errno
		l    []api.Ask
	}{
		{open, api.ErrRange, []api.Ask{
			askNamed(1, 1, 0, i3, 0, 1, 0), askNamed(1, 0, 9, i3, 0, 1, 0), askNamed(1, 5, 9, i3, 0, 1, 0), askNamed(1, 1, 9, 4, 0, 1, 0), askNamed(1, 1, 9, 255, 0, 1, 0), askNamed(1, 1, 9, i3, 0, 4, 0), askNamed(1, 1, 9, i3, 0, 1, 10000),
			askPromise(1, 1, 0, inside, 0), askPromise(1, 0, 9, inside, 0), askPromise(1, 255, 9, inside, 0), askPromise(1, 1, 9, 3, 0), askPromise(1, 1, 9, inside, 65535),
			askPay(1, 3, 0), askMove(1, 3, 4), askMove(1, 3, 16), askMove(1, 3, 255), askDay(1, 10000), askDay(1, 65535),
		}},
		{open, api.ErrState, []api.Ask{
			askNamed(1, 4, 9, i3, 0, 1, 0), askLevel(askNamed(1, 1, 9, i2, 2, 3, 0)), askNamed(1, 1, 9, i3, 1, 1, 0), askNamed(1, 1, 9, i3, 2, 1, 0), askNamed(1, 1, 9, i3, 0, 1, 9), askNamed(1, 1, 9, i3, 0, 1, 40),
			askPromise(1, 1, 9, inside, 9), askPromise(1, 1, 9, inside, 40),
			askSure(1, 3), askPay(1, 3, 61), askMove(1, 5, i3), askDay(1, 0), askDay(1, 9), askDay(1, 10),
		}},
		{open, api.ErrTwice, []api.Ask{
			askNamed(1, 1, 3, i3, 0, 1, 0), askNamed(1, 1, 6, i3, 0, 1, 0), askPromise(1, 1, 8, inside, 0), askNamed(1, 1, 9, i2, 1, 3, 0), askNamed(1, 1, 9, o4, 0, 3, 20), askMove(1, 3, i2), askMove(1, 3, o4),
		}},
		{open, api.ErrNone, []api.Ask{askSure(1, 0), askSure(1, 4), askSure(1, 6), askPay(1, 6, 1), askPay(1, 999999, 100000000), askPay(1, 9, 0), askCancel(1, 0), askCancel(1, 6), askCancel(1, 9), askMove(1, 6, i3), askMove(1, 9, 255)}},
		{open, api.ErrFull, []api.Ask{askNamed(1, 1, 9, s2, 2, 3, 0), askPromise(1, 1, 9, suite, 0), askMove(1, 3, s2)}},
		{open, api.ErrState, []api.Ask{askCancel(1, 8), askPay(1, 8, 1)}},
		{on(40, open), api.ErrState, []api.Ask{askNamed(1, 1, 9, i3, 0, 1, 0), askPromise(1, 1, 9, inside, 0), askDay(1, 40)}},
		{kept, api.ErrState, []api.Ask{askClose(1), askPromise(1, 1, 9, inside, 0)}},
		{kept, api.ErrMany, []api.Ask{askPay(1, 8, 1), askCancel(1, 8)}},
		{kept, api.ErrTwice, []api.Ask{askNamed(1, 1, 9, s2, 0, 1, 0)}},
		{crowd(), api.ErrMany, []api.Ask{askNamed(1, 1, 8, s2, 0, 1, 0), askPromise(1, 1, 8, inside, 0)}},
		{packet(guests(4, 1, o4, 0, 3), guests(2, 2, i2, 0, 3), guests(2, 3, s2, 0, 3)), api.ErrSpace, []api.Ask{askNamed(1, 2, 8, i3, 0, 1, 0), askPromise(1, 2, 8, inside, 0)}},
	} {
		for _, a := range c.l {
			does(t, fmt.Sprint(c.want), c.s, a, c.s, api.Answer{Errno: c.want})
		}
	}
}

// wrongAsks: what chapter 12 says of each.
func wrongAsks() map[api.Ask]api.Errno {
	return map[api.Ask]api.Errno{
		{}:                                     api.ErrKind,
		{Number: 1}:                            api.ErrKind,
		{Number: 1, Kind: 9}:                   api.ErrKind,
		{Number: 1, Kind: -1}:                  api.ErrKind,
		askClose(0):                            api.ErrRange,
		askClose(65536):                        api.ErrRange,
		askSure(-1, 7):                         api.ErrRange,
		askSure(1, -7):                         api.ErrRange,
		askSure(1, 1000000):                    api.ErrRange,
		askPay(1, 7, -1):                       api.ErrRange,
		askMove(1, 7, -1):                      api.ErrRange,
		askMove(1, 7, 256):                     api.ErrRange,
		askDay(1, -1):                          api.ErrRange,
		askDay(1, 65536):                       api.ErrRange,
		askLevel(askClose(1)):                  api.ErrForm,
		askLevel(askSure(1, 7)):                api.ErrForm,
		{Number: 1, Kind: api.AskClose, Id: 7}: api.ErrForm,
		{Number: 1, Kind: api.AskDay, Id: 7, Until: 11}:                                       api.ErrForm,
		{Number: 1, Kind: api.AskCancel, Id: 7, Amount: 1}:                                    api.ErrForm,
		{Number: 1, Kind: api.AskPromise, Id: 9, Guests: 1, Cabin: none}:                      api.ErrForm,
		{Number: 1, Kind: api.AskPromise, Id: 9, Guests: 1, Span: api.Span{To: 3}}:            api.ErrForm,
		{Number: 1, Kind: api.AskNamed, Id: 9, Guests: 1, Span: api.Span{To: 1}, Category: 1}: api.ErrForm,
		askNamed(1, 256, 9, i3, 0, 1, 0):                                                      api.ErrRange,
	}
}

// wrongSailings: what chapter 8 says of each.
func wrongSailings() map[api.Errno]api.Sailing {
	return map[api.Errno]api.Sailing{
		api.ErrForm:  packet(api.Booking{Id: 2, Kind: api.KindNamed, State: api.StateSure, Guests: 1, Category: 1, Span: api.Span{To: 1}}),
		api.ErrMany:  packet(slices.Repeat([]api.Booking{guests(1, 1, i2, 0, 1)}, 17)...),
		api.ErrRange: on(-1, packet()),
		api.ErrState: closed(packet(promise(1, 1, inside, none))),
		api.ErrNone:  {Ship: api.Ship{Legs: 1, Souls: 1}},
		api.ErrTwice: packet(guests(1, 1, i2, 0, 2), guests(1, 2, i2, 1, 3)),
		api.ErrKind:  packet(api.Booking{}),
		api.ErrFull:  packet(promise(1, 1, suite, none), promise(1, 2, suite, none)),
	}
}

// TestM1Wrong: a sailing that is not right is told ahead of a request that is not; none of them is an answer.
func TestM1Wrong(t *testing.T) {
	for want, s := range wrongSailings() {
		for _, a := range []api.Ask{askClose(1), askDay(1, 10000), askNamed(1, 1, 7, i3, 0, 1, 0), askSure(1, 0)} {
			refuses(t, "a sailing", s, a, want)
		}
		for a := range wrongAsks() {
			refuses(t, "a sailing and a request", s, a, want)
		}
	}
	for a, want := range wrongAsks() {
		refuses(t, "a request", packet(guests(1, 7, i2, 0, 1)), a, want)
		refuses(t, "a request to a closed sailing", closed(packet()), a, want)
	}
}

// TestExample: the example of the document.
func TestExample(t *testing.T) {
	s := api.Sailing{
		Ship: api.Ship{
			Legs: 3, Souls: 9,
			Categories: []api.Category{{Name: "INSIDE", Higher: []int{1}}, {Name: "OUTSIDE", Higher: []int{2}}, {Name: "SUITE"}},
			Cabins:     []api.Cabin{{Name: "I", Berths: 2}, {Name: "O", Category: 1, Berths: 2}, {Name: "S", Category: 2, Berths: 2}},
		},
		Fares:  api.Fares{Leg: [][]int{{1, 1, 1}, {2, 2, 2}, {3, 3, 3}}},
		Leaves: 9,
	}
	for i, c := range []struct {
		a    api.Ask
		want api.Answer
	}{
		{askNamed(1, 2, 1, 1, 1, 3, 0), api.Answer{Owed: 8}},
		{askPromise(2, 2, 2, 0, 0), api.Answer{Owed: 6}},
		{askPromise(3, 2, 3, 0, 0), api.Answer{Owed: 6}},
		{askPromise(4, 2, 4, 0, 0), api.Answer{Errno: api.ErrFull}},
		{askClose(5), api.Answer{}},
	} {
		next, answer, e := desk.Do(s, c.a)
		if answer != c.want || e != api.OK {
			t.Errorf("%d: %v, %d, not %v", i, answer, e, c.want)
		}
		s = next
	}
	if len(s.Bookings) != 3 || s.Bookings[1].Cabin != 0 || s.Bookings[2].Cabin != 2 {
		t.Errorf("it is %v", s.Bookings)
	}
}
