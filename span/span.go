// Package span: spans of a voyage: see doc/01-span.md.
package span

import "taffrail/api"

// Check a span.
func Check(s api.Span, legs int) api.Errno {
	if !sails(legs) || s.From < 0 || s.To > legs {
		return api.ErrRange
	}
	if s.To <= s.From {
		return api.ErrState
	}
	return api.OK
}

// Meets: have two spans a leg in common?
func Meets(a, b api.Span) (bool, api.Errno) {
	if e := Check(a, api.MaxLegs); e != api.OK {
		return false, e
	}
	if e := Check(b, api.MaxLegs); e != api.OK {
		return false, e
	}
	return meet(a, b), api.OK
}

// Free spans.
func Free(l []api.Span, legs int) ([]api.Span, api.Errno) {
	if e := checkCalendar(l, legs); e != api.OK {
		return nil, e
	}
	var free []api.Span
	end := 0
	for _, s := range l {
		free = addGap(free, end, s.From)
		end = s.To
	}
	return addGap(free, end, legs), api.OK
}

// Add a span.
func Add(l []api.Span, legs int, s api.Span) ([]api.Span, api.Errno) {
	if e := checkBoth(l, legs, s); e != api.OK {
		return nil, e
	}
	if first(l, func(x api.Span) bool { return meet(x, s) }) < len(l) {
		return nil, api.ErrTwice
	}
	at := first(l, func(x api.Span) bool { return x.From > s.From })
	with := make([]api.Span, 0, len(l)+1)
	with = append(with, l[:at]...)
	with = append(with, s)
	return append(with, l[at:]...), api.OK
}

// Take a span.
func Take(l []api.Span, legs int, s api.Span) ([]api.Span, api.Errno) {
	if e := checkBoth(l, legs, s); e != api.OK {
		return nil, e
	}
	at := first(l, func(x api.Span) bool { return x == s })
	if at == len(l) {
		return nil, api.ErrNone
	}
	without := make([]api.Span, 0, len(l)-1)
	without = append(without, l[:at]...)
	return append(without, l[at+1:]...), api.OK
}

// sails: may a voyage have so many legs?
func sails(legs int) bool { return 1 <= legs && legs <= api.MaxLegs }

// meet is Meets of spans that were checked.
func meet(a, b api.Span) bool { return a.From < b.To && b.From < a.To }

// checkCalendar asks for legs by itself: an empty calendar has no span whose Check would.
func checkCalendar(l []api.Span, legs int) api.Errno {
	if !sails(legs) {
		return api.ErrRange
	}
	end := 0
	for _, s := range l {
		if e := Check(s, legs); e != api.OK {
			return e
		}
		if s.From < end {
			return api.ErrState
		}
		end = s.To
	}
	return api.OK
}

// checkBoth: a calendar, then a span that is to be added or taken.
func checkBoth(l []api.Span, legs int, s api.Span) api.Errno {
	if e := checkCalendar(l, legs); e != api.OK {
		return e
	}
	return Check(s, legs)
}

// first: where the first span is that is looked for; behind all, if there is none.
func first(l []api.Span, is func(api.Span) bool) int {
	for i, s := range l {
		if is(s) {
			return i
		}
	}
	return len(l)
}

// addGap leaves out a gap of no leg: it would be no span.
func addGap(free []api.Span, from, to int) []api.Span {
	if from == to {
		return free
	}
	return append(free, api.Span{From: from, To: to})
}
