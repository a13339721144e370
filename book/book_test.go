package book_test

import (
	"reflect"
	"slices"
	"testing"

	"taffrail/api"
	"taffrail/book"
)

func TestG2Told(t *testing.T) {
	has := but(promise(5, 0, 2), func(b *api.Booking) { b.Cabin = 1 })
	option := but(named(6, 0, 1, 3, 4), func(b *api.Booking) { b.State, b.Until = api.StateOption, 9 })
	for _, c := range []struct {
		name  string
		l     []api.Booking
		cabin int
		spans []api.Span
		e     api.Errno
		on    []int
	}{
		{"none", nil, 0, nil, api.OK, []int{0, 0, 0, 0}},
		{"empty", []api.Booking{}, 4, nil, api.OK, []int{0, 0, 0, 0}},
		{"one", []api.Booking{named(1, 0, 2, 1, 3)}, 0, []api.Span{{From: 1, To: 3}}, api.OK, []int{0, 2, 2, 0}},
		{"another cabin", []api.Booking{named(1, 0, 2, 1, 3)}, 1, nil, api.OK, []int{0, 2, 2, 0}},
		{"in order", []api.Booking{named(1, 0, 2, 2, 4), named(2, 0, 1, 0, 2)}, 0, []api.Span{{From: 0, To: 2}, {From: 2, To: 4}}, api.OK, []int{1, 1, 2, 2}},
		{"an id twice", []api.Booking{named(1, 0, 2, 2, 3), named(1, 0, 1, 0, 1)}, 0, []api.Span{{From: 0, To: 1}, {From: 2, To: 3}}, api.OK, []int{1, 0, 2, 0}},
		{"options count", []api.Booking{option, named(1, 0, 2, 0, 1)}, 0, []api.Span{{From: 0, To: 1}, {From: 3, To: 4}}, api.OK, []int{2, 0, 0, 1}},
		{"promises without a cabin", []api.Booking{promise(1, 0, 3), promise(2, 3, 4)}, 0, nil, api.OK, []int{7, 7, 7, 7}},
		{"promises with one", []api.Booking{has, promise(2, 0, 1)}, 1, []api.Span{{From: 0, To: 4}}, api.OK, []int{3, 3, 3, 3}},
		{"a promise beside a named one", []api.Booking{has, named(7, 1, 4, 3, 4)}, 1, nil, api.ErrTwice, []int{2, 2, 2, 6}},
		{"meeting in another cabin", []api.Booking{has, named(7, 1, 4, 3, 4)}, 0, nil, api.OK, []int{2, 2, 2, 6}},
		{"meeting", []api.Booking{named(1, 0, 1, 0, 3), named(2, 0, 1, 2, 4)}, 0, nil, api.ErrTwice, []int{1, 1, 2, 1}},
		{"the same", []api.Booking{named(1, 0, 1, 2, 3), named(2, 0, 1, 2, 3)}, 0, nil, api.ErrTwice, []int{0, 0, 2, 0}},
		{"meeting one that is gone", []api.Booking{named(1, 0, 1, 0, 3), gone(named(2, 0, 2, 2, 4))}, 0, []api.Span{{From: 0, To: 3}}, api.OK, []int{1, 1, 1, 0}},
		{"two that are gone", []api.Booking{gone(named(1, 0, 1, 0, 3)), gone(has), gone(promise(3, 0, 4))}, 1, nil, api.OK, []int{0, 0, 0, 0}},
		{"cabin below 0", []api.Booking{promise(1, 0, 1)}, -1, nil, api.ErrRange, []int{1, 1, 1, 1}},
		{"no such cabin", []api.Booking{named(1, 0, 1, 0, 3), named(2, 0, 1, 2, 4)}, 5, nil, api.ErrRange, []int{1, 1, 2, 1}},
	} {
		if l, e := book.Spans(liner(), c.l, c.cabin); !slices.Equal(l, c.spans) || e != c.e {
			t.Errorf("%s: Spans = %v, %d, not %v, %d", c.name, l, e, c.spans, c.e)
		}
		if l, e := book.Souls(liner(), c.l); !slices.Equal(l, c.on) || e != api.OK {
			t.Errorf("%s: Souls = %v, %d, not %v", c.name, l, e, c.on)
		}
	}
}

// wantedSpans by the words of the document, leg by leg.
func wantedSpans(l []api.Booking, cabin int) ([]api.Span, api.Errno) {
	var spans []api.Span
	for leg := range 4 {
		on := 0
		for _, b := range l {
			if b.State == api.StateGone || b.Cabin != cabin || leg < b.Span.From || leg >= b.Span.To {
				continue
			}
			on++
			if b.Span.From == leg {
				spans = append(spans, b.Span)
			}
		}
		if on > 1 {
			return nil, api.ErrTwice
		}
	}
	return spans, api.OK
}

// wantedSouls likewise, of a number of guests that there may be.
func wantedSouls(l []api.Booking) []int {
	on := make([]int, 4)
	for leg := range on {
		for _, b := range l {
			if b.State != api.StateGone && b.Span.From <= leg && leg < b.Span.To {
				on[leg] += b.Guests
			}
		}
	}
	return on
}

// choices: bookings of two cabins, of all spans, live and gone.
func choices() []api.Booking {
	var l []api.Booking
	for cabin := range 2 {
		for from := range 4 {
			for to := from + 1; to <= 4; to++ {
				b := named(1+len(l), cabin, 1+cabin, from, to)
				l = append(l, b, gone(b))
			}
		}
	}
	return append(l, promise(98, 0, 3), but(promise(99, 0, 4), func(b *api.Booking) { b.Cabin = 1 }))
}

// TestG2All: all lists of three of some bookings. And G3: without those that are gone it is the same.
func TestG2All(t *testing.T) {
	s, all, twice := liner(), choices(), 0
	for _, a := range all {
		for _, b := range all {
			for _, c := range all {
				l := []api.Booking{a, b, c}
				live := slices.DeleteFunc(slices.Clone(l), func(b api.Booking) bool { return b.State == api.StateGone })
				for cabin := range 2 {
					want, f := wantedSpans(l, cabin)
					if spans, e := book.Spans(s, l, cabin); !slices.Equal(spans, want) || e != f {
						t.Fatalf("Spans(%v, %d) = %v, %d, not %v, %d", l, cabin, spans, e, want, f)
					}
					if spans, e := book.Spans(s, live, cabin); !slices.Equal(spans, want) || e != f {
						t.Fatalf("Spans(%v, %d) = %v, %d, not %v, %d", live, cabin, spans, e, want, f)
					}
					if f != api.OK {
						twice++
					}
				}
				for _, l := range [][]api.Booking{l, live} {
					if on, e := book.Souls(s, l); !slices.Equal(on, wantedSouls(l)) || e != api.OK {
						t.Fatalf("Souls(%v) = %v, %d, not %v", l, on, e, wantedSouls(l))
					}
				}
			}
		}
	}
	if twice < 1000 {
		t.Errorf("%d met", twice)
	}
}

// TestG2Souls: as many as there may be on any ship, whatever this one may carry; one more, on one leg, is too many.
func TestG2Souls(t *testing.T) {
	var l []api.Booking
	for i := range 15 {
		l = append(l, promise(1+i, 0, 4))
	}
	s := liner()
	s.Souls = 1
	full := []int{60, 60, 60, 60}
	if on, e := book.Souls(s, l); !slices.Equal(on, full) || e != api.OK {
		t.Errorf("Souls of 60 = %v, %d", on, e)
	}
	if on, e := book.Souls(s, append(slices.Clone(l), gone(promise(50, 0, 4)), gone(named(51, 0, 1, 0, 4)))); !slices.Equal(on, full) || e != api.OK {
		t.Errorf("Souls of 60, and some that are gone = %v, %d", on, e)
	}
	for leg := range 4 {
		if on, e := book.Souls(s, append(slices.Clone(l), named(50, 0, 1, leg, leg+1))); on != nil || e != api.ErrMany {
			t.Errorf("Souls of 61 on leg %d = %v, %d", leg, on, e)
		}
	}
	if on, e := book.Souls(s, append(slices.Clone(l), promise(50, 0, 4), promise(51, 0, 0))); on != nil || e != api.ErrRange {
		t.Errorf("Souls of 64, and a wrong one = %v, %d", on, e)
	}
}

// TestG2Ship: a wrong ship is told ahead of all else.
func TestG2Ship(t *testing.T) {
	s := liner()
	s.Cabins = nil
	for _, l := range [][]api.Booking{nil, {promise(1, 0, 1)}, {{}}} {
		for _, cabin := range []int{-1, 0, 5} {
			if spans, e := book.Spans(s, l, cabin); spans != nil || e != api.ErrNone {
				t.Errorf("Spans(%v, %d) = %v, %d", l, cabin, spans, e)
			}
		}
		if on, e := book.Souls(s, l); on != nil || e != api.ErrNone {
			t.Errorf("Souls(%v) = %v, %d", l, on, e)
		}
	}
}

// TestG2Long: a list has no length that is too long.
func TestG2Long(t *testing.T) {
	l := make([]api.Booking, 100000)
	for i := range l {
		l[i] = gone(named(1+i, 0, 2, 0, 4))
	}
	l[len(l)-1].State = api.StateSure
	if spans, e := book.Spans(liner(), l, 0); !slices.Equal(spans, []api.Span{{From: 0, To: 4}}) || e != api.OK {
		t.Errorf("Spans = %v, %d", spans, e)
	}
	if on, e := book.Souls(liner(), l); !slices.Equal(on, []int{2, 2, 2, 2}) || e != api.OK {
		t.Errorf("Souls = %v, %d", on, e)
	}
}

// TestP2: what is handed in, with the room behind it, stays as it was; an answer is new memory.
func TestP2(t *testing.T) {
	fresh := func() (api.Ship, []api.Booking) {
		s := liner()
		l := []api.Booking{named(1, 0, 2, 2, 4), named(2, 0, 1, 0, 2), promise(3, 0, 2), {Id: 77}, {Id: 78}}
		l[0].Folio = []api.Entry{{Day: 1, Kind: 1, Amount: 5}, {Day: 77}}[:1]
		s.Cabins = append(s.Cabins, api.Cabin{Name: "spare"})
		return s, l
	}
	same := func(s api.Ship, l []api.Booking) bool {
		ship, all := fresh()
		return reflect.DeepEqual(s, ship) && reflect.DeepEqual(l, all) && l[0].Folio[:2][1].Day == 77
	}
	s, all := fresh()
	voyage, l := s, all[:3]
	voyage.Cabins = s.Cabins[:5]
	if e := book.Check(voyage, l[0]); e != api.OK {
		t.Fatalf("Check: %d", e)
	}
	spans, e := book.Spans(voyage, l, 0)
	on, f := book.Souls(voyage, l)
	if e != api.OK || f != api.OK || !same(s, all) {
		t.Fatalf("Spans: %d, Souls: %d; %v and %v were handed in", e, f, s, all)
	}
	l[0], l[1].Span.To, voyage.Legs = promise(1, 0, 4), 1, 7
	if !slices.Equal(spans, []api.Span{{From: 0, To: 2}, {From: 2, To: 4}}) || !slices.Equal(on, []int{3, 3, 4, 4}) {
		t.Errorf("a later change is seen: %v, %v", spans, on)
	}
	s, all = fresh()
	voyage, l = s, all[:3]
	voyage.Cabins = s.Cabins[:5]
	spans, _ = book.Spans(voyage, l, 0)
	on, _ = book.Souls(voyage, l)
	for i := range spans[:cap(spans)] {
		spans[:cap(spans)][i] = api.Span{From: 9, To: 9}
	}
	for i := range on[:cap(on)] {
		on[:cap(on)][i] = 9
	}
	if !same(s, all) {
		t.Errorf("an answer shares memory: %v, %v", s, all)
	}
}

// TestP3: the same each time, whatever was asked between.
func TestP3(t *testing.T) {
	l := []api.Booking{named(1, 0, 2, 2, 4), named(2, 0, 1, 0, 2)}
	for range 50 {
		if spans, e := book.Spans(liner(), l, 0); !slices.Equal(spans, []api.Span{{From: 0, To: 2}, {From: 2, To: 4}}) || e != api.OK {
			t.Fatalf("Spans: %v, %d", spans, e)
		}
		if on, e := book.Souls(liner(), l); !slices.Equal(on, []int{1, 1, 2, 2}) || e != api.OK {
			t.Fatalf("Souls: %v, %d", on, e)
		}
		if spans, e := book.Spans(liner(), append(l[:2:2], l[0]), 0); spans != nil || e != api.ErrTwice {
			t.Fatalf("Spans of two that meet: %v, %d", spans, e)
		}
		if e := book.Check(liner(), api.Booking{}); e != api.ErrKind {
			t.Fatalf("Check: %d", e)
		}
	}
}
