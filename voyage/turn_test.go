package voyage_test

import (
	"fmt"
	"math"
	"testing"

	"taffrail/api"
	"taffrail/sell"
	"taffrail/voyage"
)

// TestK1Day: which days there are to turn to; nothing else changes where no option waits.
func TestK1Day(t *testing.T) {
	l := []api.Booking{guest(1, i2, 0, 2, fare(1, 30)), word(2, inside, 2, none), gone(guest(3, i2, 0, 3))}
	for _, from := range []int{0, 1, 5, 29, 30, 31, 9998, 9999} {
		s := on(from, ferry(l...))
		for _, day := range []int{math.MinInt, -9999, -1, 0, 1, 2, 4, 5, 6, 29, 30, 31, 9997, 9998, 9999, 10000, math.MaxInt} {
			switch {
			case day < 0 || day > 9999:
				turns(t, fmt.Sprint("from ", from), s, day, api.Sailing{}, nil, api.ErrRange)
			case day <= from:
				turns(t, fmt.Sprint("from ", from), s, day, api.Sailing{}, nil, api.ErrState)
			default:
				turns(t, fmt.Sprint("from ", from), s, day, on(day, s), nil, api.OK)
			}
		}
	}
}

// TestK1Until: an option is there still on its last day, and gone on the next.
func TestK1Until(t *testing.T) {
	for _, until := range []int{0, 3, 5, 6, 7, 40, 9998, 9999} {
		for _, b := range []api.Booking{guest(4, s4, 1, 3), word(4, outside, 3, none)} {
			s := ferry(guest(2, i2, 0, 1), option(until, b), guest(9, i2, 1, 2))
			for _, day := range []int{6, 7, 8, 40, 41, 9998, 9999} {
				want, ids := on(day, s), []int(nil)
				if until < day {
					want, ids = on(day, ferry(guest(2, i2, 0, 1), gone(b), guest(9, i2, 1, 2))), []int{4}
				}
				turns(t, fmt.Sprint("till ", until), s, day, want, ids, api.OK)
			}
		}
	}
}

// TestK1Folio: what comes behind the folio of an option that is gone on day 9; or nothing, where that can't be.
func TestK1Folio(t *testing.T) {
	for _, c := range []struct {
		name        string
		folio, come []api.Entry
	}{
		{"nothing", nil, nil},
		{"a fare", []api.Entry{fare(5, 30)}, []api.Entry{back(9, -30)}},
		{"a fare of nothing", []api.Entry{fare(5, 0)}, nil},
		{"paid in part", []api.Entry{fare(5, 30), paid(6, -8)}, []api.Entry{back(9, -30), back(9, 8)}},
		{"paid", []api.Entry{fare(5, 30), paid(6, -30)}, []api.Entry{back(9, -30), back(9, 30)}},
		{"taken back in part", []api.Entry{fare(5, 30), back(6, -8)}, []api.Entry{back(9, -22)}},
		{"taken back", []api.Entry{fare(5, 30), back(6, -30)}, nil},
		{"more than it taken back", []api.Entry{fare(5, 30), back(6, -40)}, []api.Entry{back(9, 10)}},
		{"a penalty that was there", []api.Entry{penalty(2, 7), fare(5, 30), paid(5, -9)}, []api.Entry{back(9, -30), back(9, 2)}},
		{"a penalty alone", []api.Entry{penalty(2, 7)}, nil},
		{"an entry of the day", []api.Entry{fare(9, 30)}, []api.Entry{back(9, -30)}},
		{"an entry of a later day", []api.Entry{fare(10, 30)}, nil},
		{"an entry of the last day", []api.Entry{fare(5, 30), paid(9999, -1)}, nil},
		{"a later day, and nothing comes", []api.Entry{fare(10, 0)}, nil},
		{"ten entries, and two come", append(units(9), paid(5, -1)), []api.Entry{back(9, -9), back(9, 1)}},
		{"eleven entries, and one comes", units(11), []api.Entry{back(9, -11)}},
		{"eleven entries, and two come", append(units(10), paid(5, -1)), nil},
		{"twelve entries", units(12), nil},
		{"twelve entries, and none comes", append(units(11), back(5, -11)), nil},
		{"the most", []api.Entry{fare(5, 100000000)}, []api.Entry{back(9, -100000000)}},
		{"fares beyond the most", []api.Entry{fare(5, 100000000), paid(5, -100000000), fare(5, 1)}, nil},
	} {
		for name, b := range map[string]api.Booking{"guest": guest(4, s4, 1, 3, c.folio...), "word": word(4, inside, 1, none, c.folio...)} {
			s := ferry(guest(2, i2, 0, 1), option(8, b))
			turns(t, fmt.Sprint(name, ", ", c.name), s, 9, on(9, ferry(guest(2, i2, 0, 1), gone(b, c.come...))), []int{4}, api.OK)
		}
		kept := word(4, inside, 1, o2, c.folio...)
		turns(t, "kept, "+c.name, closed(ferry(option(8, kept))), 9, closed(on(9, ferry(gone(kept, c.come...)))), []int{4}, api.OK)
	}
}

// TestK1Some: of many bookings just those go that wait too long, each as it would alone.
func TestK1Some(t *testing.T) {
	s := ferry(
		option(8, guest(1, i2, 0, 1, fare(5, 10), paid(5, -10))),
		option(9, guest(2, i2, 1, 2, fare(5, 50))),
		guest(3, i4, 0, 3, fare(5, 60)),
		option(0, guest(5, o2, 0, 3, units(12)...)),
		option(7, word(8, bunk, 3, none, fare(9, 12))),
		gone(guest(11, o2, 0, 3, fare(5, 7))),
		word(13, suite, 2, none),
		option(8, guest(999999, i2, 2, 3, fare(10, 40))),
	)
	l := s.Bookings
	want := on(9, ferry(gone(l[0], back(9, -10), back(9, 10)), l[1], l[2], gone(l[3]), gone(l[4], back(9, -12)), l[5], l[6], gone(l[7])))
	turns(t, "some", s, 9, want, []int{1, 5, 8, 999999}, api.OK)
}

// TestK1Room: what is gone is there for others, and no more told.
func TestK1Room(t *testing.T) {
	s := ferry(option(8, word(1, suite, 1, none)), option(8, guest(2, i2, 0, 2)))
	next, _, e := voyage.Turn(s, 9)
	if e != api.OK {
		t.Fatal(e)
	}
	turns(t, "behind it", next, 10, on(10, next), nil, api.OK)
	for _, b := range []api.Booking{guest(3, s4, 0, 3), guest(3, i2, 1, 2), word(3, suite, 1, none)} {
		do := sell.Named
		if b.Kind == api.KindPromise {
			do = sell.Promise
		}
		if _, e := do(s, b); e == api.OK {
			t.Errorf("%v is sold ahead of it", b)
		}
		if _, e := do(next, b); e != api.OK {
			t.Errorf("%v is not sold behind it: %d", b, e)
		}
	}
}
