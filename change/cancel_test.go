package change_test

import (
	"fmt"
	"testing"

	"taffrail/api"
	"taffrail/change"
)

// TestJ1Cancel: what comes behind a folio.
func TestJ1Cancel(t *testing.T) {
	b := named(1, 4, 1, 0, 1)
	for _, c := range []struct {
		name string
		s    api.Sailing
		id   int
		come []api.Entry
		e    api.Errno
	}{
		{"early", on(9, sailing(with(b, fare(2, 440)))), 1, []api.Entry{back(9, -440)}, api.OK},
		{"31 days ahead", on(9, busy()), 10, []api.Entry{back(9, -440), back(9, 40)}, api.OK},
		{"30 days ahead", on(10, busy()), 10, []api.Entry{back(10, -440), penalty(10, 88)}, api.OK},
		{"15 days ahead", on(25, busy()), 10, []api.Entry{back(25, -440), penalty(25, 88)}, api.OK},
		{"14 days ahead", on(26, busy()), 10, []api.Entry{back(26, -440), penalty(26, 264)}, api.OK},
		{"4 days ahead", on(36, busy()), 10, []api.Entry{back(36, -440), penalty(36, 264)}, api.OK},
		{"3 days ahead", on(37, busy()), 10, []api.Entry{back(37, -440), penalty(37, 440)}, api.OK},
		{"on the day", on(40, busy()), 10, []api.Entry{back(40, -440), penalty(40, 440)}, api.OK},
		{"a day behind", on(41, busy()), 10, []api.Entry{back(41, -440), penalty(41, 440)}, api.OK},
		{"at the end of days", on(9999, busy()), 10, []api.Entry{back(9999, -440), penalty(9999, 440)}, api.OK},
		{"an option early", busy(), 11, []api.Entry{back(5, -289)}, api.OK},
		{"an option on the day", on(40, busy()), 11, []api.Entry{back(40, -289)}, api.OK},
		{"an option that paid", on(40, busy()), 13, []api.Entry{back(40, -1398), back(40, 98)}, api.OK},
		{"a promise", on(26, busy()), 12, []api.Entry{back(26, -770), penalty(26, 462)}, api.OK},
		{"a kept promise", on(26, kept()), 12, []api.Entry{back(26, -770), penalty(26, 462)}, api.OK},
		{"more paid than the penalty", on(26, sailing(with(b, fare(1, 100), paid(1, 70)))), 1, []api.Entry{back(26, -100), penalty(26, 60), back(26, 10)}, api.OK},
		{"as much paid as the penalty", on(26, sailing(with(b, fare(1, 100), paid(1, 60)))), 1, []api.Entry{back(26, -100), penalty(26, 60)}, api.OK},
		{"without a folio", on(40, sailing(b)), 1, nil, api.OK},
		{"a fare of nothing", on(40, sailing(with(b, fare(1, 0)))), 1, nil, api.OK},
		{"a fare that was taken back in part", on(26, sailing(with(b, fare(1, 100), back(2, -30), fare(3, 30)))), 1, []api.Entry{back(26, -100), penalty(26, 60)}, api.OK},
		{"a fare that was taken back", on(40, sailing(with(b, fare(1, 100), back(2, -100)))), 1, nil, api.OK},
		{"more taken back than the fare", on(40, sailing(with(b, fare(1, 100), back(2, -130)))), 1, []api.Entry{back(40, 30)}, api.OK},
		{"a penalty that was there", on(40, sailing(with(b, penalty(1, 5), fare(1, 100)))), 1, []api.Entry{back(40, -100), penalty(40, 100)}, api.OK},
		{"half a unit", on(26, sailing(with(b, fare(1, 101), fare(1, 4)))), 1, []api.Entry{back(26, -105), penalty(26, 63)}, api.OK},
		{"rounded up", on(10, sailing(with(b, fare(1, 289)))), 1, []api.Entry{back(10, -289), penalty(10, 58)}, api.OK},
		{"the most", on(40, sailing(with(b, fare(1, 100000000)))), 1, []api.Entry{back(40, -100000000), penalty(40, 100000000)}, api.OK},
		{"fares beyond the most", on(40, sailing(with(b, fare(1, 100000000), paid(1, 100000000), fare(1, 1)))), 1, nil, api.ErrRange},
		{"an option's fares beyond the most", on(40, sailing(with(option(b, 9), fare(1, 100000000), paid(1, 100000000), fare(1, 1)))), 1, nil, api.ErrRange},
		{"a day ahead of the last entry", sailing(with(b, fare(6, 10))), 1, nil, api.ErrState},
		{"a day ahead of the last entry, of nothing", sailing(with(b, fare(6, 0))), 1, nil, api.OK},
		{"eleven entries, without a penalty", sailing(with(b, fares(11)...)), 1, []api.Entry{back(5, -11)}, api.OK},
		{"eleven entries, with a penalty", on(40, sailing(with(b, fares(11)...))), 1, nil, api.ErrMany},
		{"ten entries, with a penalty", on(40, sailing(with(b, fares(10)...))), 1, []api.Entry{back(40, -10), penalty(40, 10)}, api.OK},
		{"twelve entries", sailing(with(b, fares(12)...)), 1, nil, api.ErrMany},
		{"twelve entries of an option", sailing(with(option(b, 9), fares(12)...)), 1, nil, api.ErrMany},
	} {
		var want api.Booking
		for _, b := range c.s.Bookings {
			if b.Id == c.id {
				want = gone(b)
				want.Folio = append(append([]api.Entry{}, b.Folio...), c.come...)
			}
		}
		wants(t, c.name, change.Cancel, c.s, c.id, want, c.e)
	}
}

// TestJ1CancelLeaves: from the day on which it leaves, there are no days till then.
func TestJ1CancelLeaves(t *testing.T) {
	b := with(named(1, 4, 1, 0, 1), fare(2, 440))
	for day, part := range map[int]int{38: 220, 39: 220, 40: 440, 41: 440, 9999: 440} {
		s := on(day, sailing(b))
		s.Fares.Bands = []api.Band{{Days: 0, Part: 100}, {Days: 999, Part: 50}}
		want := with(gone(b), fare(2, 440), back(day, -440), penalty(day, part))
		wants(t, fmt.Sprint("on day ", day), change.Cancel, s, 1, want, api.OK)
	}
}

// TestJ1CancelFirst: chapter 5 is asked ahead of chapter 6, but not of an option.
func TestJ1CancelFirst(t *testing.T) {
	b := with(named(1, 4, 1, 0, 1), append([]api.Entry{fare(0, 100000000), paid(0, 100000000)}, fares(10)...)...)
	wants(t, "sure", change.Cancel, sailing(b), 1, api.Booking{}, api.ErrRange)
	wants(t, "option", change.Cancel, sailing(option(b, 9)), 1, api.Booking{}, api.ErrMany)
}

// TestJ1CancelTwice: behind it there is none; and its cabin, and what it promised, are there for others.
func TestJ1CancelTwice(t *testing.T) {
	for _, id := range []int{10, 11, 12, 13} {
		for _, s := range []api.Sailing{busy(), kept(), on(40, busy())} {
			next, e := change.Cancel(s, id)
			if e != api.OK {
				t.Fatalf("%d: %d", id, e)
			}
			for name, do := range map[string]one{"Cancel": change.Cancel, "Sure": change.Sure, "Pay": pay(1), "Move": move(4)} {
				wants(t, fmt.Sprint(name, " of ", id, " that is gone"), do, next, id, api.Booking{}, api.ErrNone)
			}
		}
	}
	next, _ := change.Cancel(sailing(named(1, 0, 1, 0, 2), promise(2, 3, 1)), 2)
	wants(t, "to a suite that was promised", move(4), next, 1, in(4, named(1, 0, 1, 0, 2)), api.OK)
	next, _ = change.Cancel(sailing(named(1, 0, 1, 0, 2), named(2, 1, 1, 0, 2)), 2)
	wants(t, "to a cabin that was had", move(1), next, 1, in(1, named(1, 0, 1, 0, 2)), api.OK)
}
