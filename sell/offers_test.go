package sell_test

import (
	"math"
	"slices"
	"testing"

	"taffrail/api"
	"taffrail/sell"
)

func TestI2Offers(t *testing.T) {
	whole := api.Span{To: 4}
	for _, c := range []struct {
		name   string
		s      api.Sailing
		guests int
		level  bool
		span   api.Span
		want   []int
		e      api.Errno
	}{
		{"all", sailing(), 1, false, whole, []int{0, 1, 2, 3, 4}, api.OK},
		{"two", sailing(), 2, false, whole, []int{0, 1, 2, 3, 4}, api.OK},
		{"three", sailing(), 3, false, whole, []int{1, 2, 4}, api.OK},
		{"four", sailing(), 4, false, whole, []int{1, 4}, api.OK},
		{"level", sailing(), 1, true, whole, []int{2, 4}, api.OK},
		{"four, level", sailing(), 4, true, whole, []int{4}, api.OK},
		{"where some are had", sailing(named(1, 0, 1, 0, 2), option(named(2, 4, 1, 3, 4), 9), gone(named(3, 1, 1, 0, 4))), 1, false, api.Span{From: 2, To: 4}, []int{0, 1, 2, 3}, api.OK},
		{"all had", sailing(named(1, 0, 1, 0, 1), named(2, 1, 1, 0, 1), named(3, 2, 1, 0, 1), named(4, 3, 1, 0, 1), named(5, 4, 1, 0, 1)), 1, false, api.Span{To: 1}, nil, api.OK},
		{"a suite is promised", sailing(promise(1, 3, 1)), 1, false, api.Span{To: 1}, []int{0, 1, 2, 3}, api.OK},
		{"what no promise needs", sailing(named(1, 0, 1, 0, 1), promise(2, 0, 1), promise(3, 1, 1), promise(4, 1, 1)), 1, false, api.Span{From: 1, To: 2}, []int{0, 1, 3}, api.OK},
		{"all promised", sailing(promise(1, 0, 1), promise(2, 0, 1), promise(3, 0, 1), promise(4, 0, 1), promise(5, 0, 1)), 1, false, api.Span{To: 1}, nil, api.OK},
		{"just as many souls", souls(8, busy()), 1, false, api.Span{To: 1}, []int{1, 2, 3, 4}, api.OK},
		{"a soul more", souls(8, busy()), 2, false, api.Span{To: 1}, nil, api.OK},
		{"closed", closed(in(1, promise(1, 0, 1))), 4, false, whole, []int{4}, api.OK},
		{"fifteen there", sailing(many(15, 1)...), 4, false, whole, []int{1, 4}, api.OK},
		{"fifteen there, of the greatest Ids", sailing(many(15, 999985)...), 4, false, whole, []int{1, 4}, api.OK},
		{"on the last day", on(39, 40, sailing()), 4, false, whole, []int{1, 4}, api.OK},
		{"nobody", sailing(), 0, false, whole, nil, api.ErrRange},
		{"less than nobody", sailing(), -1, false, whole, nil, api.ErrRange},
		{"five", sailing(), 5, false, whole, nil, api.ErrRange},
		{"least", sailing(), math.MinInt, false, whole, nil, api.ErrRange},
		{"greatest", sailing(), math.MaxInt, false, whole, nil, api.ErrRange},
		{"ahead of the first leg", sailing(), 1, false, api.Span{From: -1, To: 2}, nil, api.ErrRange},
		{"behind the last leg", sailing(), 1, false, api.Span{From: 1, To: 5}, nil, api.ErrRange},
		{"no leg", sailing(), 1, false, api.Span{From: 2, To: 2}, nil, api.ErrState},
		{"it leaves today", on(40, 40, sailing()), 1, false, whole, nil, api.ErrState},
		{"it has left", on(41, 40, sailing()), 1, false, whole, nil, api.ErrState},
		{"sixteen there", sailing(many(16, 1)...), 1, false, whole, nil, api.ErrMany},
	} {
		if l, e := sell.Offers(c.s, c.guests, c.level, c.span); !slices.Equal(l, c.want) || e != c.e {
			t.Errorf("%s: Offers = %v, %d, not %v, %d", c.name, l, e, c.want, c.e)
		}
	}
}

// TestI2Faults: in the order in which the document names them, in twos.
func TestI2Faults(t *testing.T) {
	type asked struct {
		s      api.Sailing
		guests int
		span   api.Span
	}
	faults := []struct {
		name string
		do   func(a *asked)
		want api.Errno
	}{
		{"wrong ship", func(a *asked) { a.s.Ship.Cabins[0].Berths = 0 }, api.ErrRange},
		{"wrong fares", func(a *asked) { a.s.Fares.Leg = nil }, api.ErrForm},
		{"wrong booking", func(a *asked) { a.s.Bookings[0].Kind = 3 }, api.ErrKind},
		{"a cabin twice", func(a *asked) { a.s.Bookings[0].Span.To = 3 }, api.ErrTwice},
		{"guests", func(a *asked) { a.guests = 5 }, api.ErrRange},
		{"span out of range", func(a *asked) { a.span.From = -1 }, api.ErrRange},
		{"span of none", func(a *asked) { a.span.To = 0 }, api.ErrState},
		{"left", func(a *asked) { a.s.Leaves = 5 }, api.ErrState},
		{"many", func(a *asked) { a.s.Bookings = append(a.s.Bookings, many(9, 100)...) }, api.ErrMany},
	}
	for i, first := range faults {
		for _, second := range faults[i:] {
			a := asked{busy(), 1, api.Span{To: 1}}
			second.do(&a)
			first.do(&a)
			if l, e := sell.Offers(a.s, a.guests, false, a.span); l != nil || e != first.want {
				t.Errorf("%s, %s: Offers = %v, %d, not %d", first.name, second.name, l, e, first.want)
			}
		}
	}
}
