package span_test

import (
	"math"
	"reflect"
	"slices"
	"testing"

	"taffrail/api"
	"taffrail/span"
)

func sp(from, to int) api.Span { return api.Span{From: from, To: to} }

// ends: numbers around every edge that the document names, and the greatest there are.
func ends() []int {
	l := []int{math.MinInt, math.MinInt + 1, math.MaxInt - 1, math.MaxInt}
	for i := -2; i <= api.MaxLegs+2; i++ {
		l = append(l, i)
	}
	return l
}

func spansOfEnds() []api.Span {
	var l []api.Span
	for _, from := range ends() {
		for _, to := range ends() {
			l = append(l, sp(from, to))
		}
	}
	return l
}

// spansOf a voyage: all that are right.
func spansOf(legs int) []api.Span {
	var l []api.Span
	for from := 0; from < legs; from++ {
		for to := from + 1; to <= legs; to++ {
			l = append(l, sp(from, to))
		}
	}
	return l
}

// calendars of a voyage: all of them, by what comes at each port on.
func calendars(legs int) [][]api.Span {
	var out [][]api.Span
	var from func(port int, l []api.Span)
	from = func(port int, l []api.Span) {
		if port == legs {
			out = append(out, l)
			return
		}
		from(port+1, l)
		for to := port + 1; to <= legs; to++ {
			from(to, append(slices.Clone(l), sp(port, to)))
		}
	}
	from(0, nil)
	return out
}

// taken: which legs spans have.
func taken(l ...api.Span) [api.MaxLegs]bool {
	var t [api.MaxLegs]bool
	for _, s := range l {
		for leg := s.From; leg < s.To; leg++ {
			t[leg] = true
		}
	}
	return t
}

func share(a, b api.Span) bool {
	ta, tb := taken(a), taken(b)
	for leg := range ta {
		if ta[leg] && tb[leg] {
			return true
		}
	}
	return false
}

func same(a, b []api.Span) bool { return slices.Equal(a, b) }

func TestA1Check(t *testing.T) {
	for _, c := range []struct {
		s    api.Span
		legs int
		want api.Errno
	}{
		{sp(0, 1), 1, api.OK},
		{sp(0, 7), 7, api.OK},
		{sp(6, 7), 7, api.OK},
		{sp(1, 3), 3, api.OK},
		{sp(0, 1), 0, api.ErrRange},
		{sp(0, 1), -1, api.ErrRange},
		{sp(0, 1), 8, api.ErrRange},
		{sp(-1, 1), 3, api.ErrRange},
		{sp(1, 4), 3, api.ErrRange},
		{sp(2, 2), 3, api.ErrState},
		{sp(0, 0), 3, api.ErrState},
		{sp(3, 1), 3, api.ErrState},
		{sp(9, 1), 3, api.ErrState},
		{sp(1, -1), 3, api.ErrState},
		{sp(-1, -1), 3, api.ErrRange},
		{sp(4, 4), 3, api.ErrRange},
		{sp(2, 2), 8, api.ErrRange},
	} {
		if e := span.Check(c.s, c.legs); e != c.want {
			t.Errorf("Check(%v, %d) = %d, not %d", c.s, c.legs, e, c.want)
		}
	}
}

func TestA1CheckOfAllEnds(t *testing.T) {
	for _, legs := range ends() {
		right := []api.Span{}
		if legs >= 1 && legs <= 7 {
			right = spansOf(legs)
		}
		for _, s := range spansOfEnds() {
			want := api.ErrState
			if slices.Contains(right, s) {
				want = api.OK
			} else if legs < 1 || legs > 7 || s.From < 0 || s.To > legs {
				want = api.ErrRange
			}
			if e := span.Check(s, legs); e != want {
				t.Errorf("Check(%v, %d) = %d, not %d", s, legs, e, want)
			}
		}
	}
}

func TestA1Meets(t *testing.T) {
	for _, a := range spansOf(api.MaxLegs) {
		for _, b := range spansOf(api.MaxLegs) {
			if ok, e := span.Meets(a, b); ok != share(a, b) || e != api.OK {
				t.Errorf("Meets(%v, %v) = %v, %d", a, b, ok, e)
			}
		}
	}
}

func TestA1MeetsErrors(t *testing.T) {
	for _, a := range spansOfEnds() {
		for _, b := range []api.Span{sp(0, 7), sp(2, 2), sp(-1, 2), sp(0, 8)} {
			want := span.Check(a, api.MaxLegs)
			if want == api.OK {
				want = span.Check(b, api.MaxLegs)
			}
			if want == api.OK {
				continue
			}
			if ok, e := span.Meets(a, b); ok || e != want {
				t.Errorf("Meets(%v, %v) = %v, %d, not false, %d", a, b, ok, e, want)
			}
		}
	}
}

func TestA1Free(t *testing.T) {
	for _, c := range []struct {
		l    []api.Span
		legs int
		want []api.Span
	}{
		{nil, 1, []api.Span{sp(0, 1)}},
		{[]api.Span{}, 7, []api.Span{sp(0, 7)}},
		{[]api.Span{sp(0, 7)}, 7, nil},
		{[]api.Span{sp(0, 3), sp(3, 7)}, 7, nil},
		{[]api.Span{sp(1, 3)}, 4, []api.Span{sp(0, 1), sp(3, 4)}},
		{[]api.Span{sp(0, 1), sp(1, 2), sp(4, 5)}, 7, []api.Span{sp(2, 4), sp(5, 7)}},
	} {
		if l, e := span.Free(c.l, c.legs); e != api.OK || !same(l, c.want) {
			t.Errorf("Free(%v, %d) = %v, %d, not %v", c.l, c.legs, l, e, c.want)
		}
	}
}

// TestA1FreeOfAll: no leg twice, none missing, and no two spans that could be one.
func TestA1FreeOfAll(t *testing.T) {
	for legs := 1; legs <= api.MaxLegs; legs++ {
		for _, l := range calendars(legs) {
			free, e := span.Free(l, legs)
			if e != api.OK {
				t.Fatalf("Free(%v, %d): %d", l, legs, e)
			}
			has, had := taken(free...), taken(l...)
			for leg := range legs {
				if has[leg] == had[leg] {
					t.Errorf("Free(%v, %d) = %v: leg %d", l, legs, free, leg)
				}
			}
			for i, s := range free {
				if span.Check(s, legs) != api.OK || i > 0 && free[i-1].To >= s.From {
					t.Errorf("Free(%v, %d) = %v: span %d", l, legs, free, i)
				}
			}
		}
	}
}

func TestA1Add(t *testing.T) {
	l := []api.Span{sp(1, 2), sp(4, 5)}
	for _, c := range []struct {
		s    api.Span
		want []api.Span
		e    api.Errno
	}{
		{sp(0, 1), []api.Span{sp(0, 1), sp(1, 2), sp(4, 5)}, api.OK},
		{sp(2, 4), []api.Span{sp(1, 2), sp(2, 4), sp(4, 5)}, api.OK},
		{sp(5, 7), []api.Span{sp(1, 2), sp(4, 5), sp(5, 7)}, api.OK},
		{sp(1, 2), nil, api.ErrTwice},
		{sp(0, 2), nil, api.ErrTwice},
		{sp(3, 7), nil, api.ErrTwice},
		{sp(0, 8), nil, api.ErrRange},
		{sp(4, 4), nil, api.ErrState},
		{sp(5, 1), nil, api.ErrState},
	} {
		if got, e := span.Add(l, 7, c.s); e != c.e || !same(got, c.want) {
			t.Errorf("Add(%v, 7, %v) = %v, %d, not %v, %d", l, c.s, got, e, c.want, c.e)
		}
	}
}

func TestA1Take(t *testing.T) {
	l := []api.Span{sp(0, 1), sp(1, 3), sp(4, 5)}
	for _, c := range []struct {
		s    api.Span
		want []api.Span
		e    api.Errno
	}{
		{sp(0, 1), []api.Span{sp(1, 3), sp(4, 5)}, api.OK},
		{sp(1, 3), []api.Span{sp(0, 1), sp(4, 5)}, api.OK},
		{sp(4, 5), []api.Span{sp(0, 1), sp(1, 3)}, api.OK},
		{sp(0, 3), nil, api.ErrNone},
		{sp(1, 2), nil, api.ErrNone},
		{sp(2, 3), nil, api.ErrNone},
		{sp(3, 4), nil, api.ErrNone},
		{sp(-1, 1), nil, api.ErrRange},
		{sp(1, 1), nil, api.ErrState},
	} {
		if got, e := span.Take(l, 7, c.s); e != c.e || !same(got, c.want) {
			t.Errorf("Take(%v, 7, %v) = %v, %d, not %v, %d", l, c.s, got, e, c.want, c.e)
		}
	}
}

// TestA2: of every calendar and every span, what is added is taken again, and what is taken is added again.
func TestA2(t *testing.T) {
	for legs := 1; legs <= api.MaxLegs; legs++ {
		for _, l := range calendars(legs) {
			for _, s := range spansOf(legs) {
				checkAddTake(t, l, legs, s)
				checkTakeAdd(t, l, legs, s)
			}
		}
	}
}

func checkAddTake(t *testing.T, l []api.Span, legs int, s api.Span) {
	t.Helper()
	with, e := span.Add(l, legs, s)
	if slices.ContainsFunc(l, func(x api.Span) bool { return share(x, s) }) {
		if with != nil || e != api.ErrTwice {
			t.Fatalf("Add(%v, %d, %v) = %v, %d", l, legs, s, with, e)
		}
		return
	}
	want := append(slices.Clone(l), s)
	slices.SortFunc(want, func(a, b api.Span) int { return a.From - b.From })
	if e != api.OK || !same(with, want) {
		t.Fatalf("Add(%v, %d, %v) = %v, %d, not %v", l, legs, s, with, e, want)
	}
	if again, e := span.Take(with, legs, s); e != api.OK || !same(again, l) {
		t.Fatalf("Take(%v, %d, %v) = %v, %d, not %v", with, legs, s, again, e, l)
	}
}

func checkTakeAdd(t *testing.T, l []api.Span, legs int, s api.Span) {
	t.Helper()
	without, e := span.Take(l, legs, s)
	if !slices.Contains(l, s) {
		if without != nil || e != api.ErrNone {
			t.Fatalf("Take(%v, %d, %v) = %v, %d", l, legs, s, without, e)
		}
		return
	}
	if e != api.OK || len(without) != len(l)-1 {
		t.Fatalf("Take(%v, %d, %v) = %v, %d", l, legs, s, without, e)
	}
	if again, e := span.Add(without, legs, s); e != api.OK || !same(again, l) {
		t.Fatalf("Add(%v, %d, %v) = %v, %d, not %v", without, legs, s, again, e, l)
	}
}

// TestA1Calendar: what is wrong with a calendar is told by all three calls, ahead of what is wrong with the span.
func TestA1Calendar(t *testing.T) {
	for _, c := range []struct {
		l    []api.Span
		legs int
		want api.Errno
	}{
		{nil, 0, api.ErrRange},
		{nil, -1, api.ErrRange},
		{nil, 8, api.ErrRange},
		{[]api.Span{sp(0, 1)}, 8, api.ErrRange},
		{[]api.Span{sp(0, 1)}, 0, api.ErrRange},
		{[]api.Span{sp(-1, 1)}, 4, api.ErrRange},
		{[]api.Span{sp(3, 5)}, 4, api.ErrRange},
		{[]api.Span{sp(0, 1), sp(1, 2), sp(4, 5)}, 4, api.ErrRange},
		{[]api.Span{sp(1, 1)}, 4, api.ErrState},
		{[]api.Span{sp(0, 2), sp(2, 2)}, 4, api.ErrState},
		{[]api.Span{sp(2, 3), sp(1, 2)}, 4, api.ErrState},
		{[]api.Span{sp(1, 3), sp(2, 4)}, 4, api.ErrState},
		{[]api.Span{sp(1, 3), sp(1, 3)}, 4, api.ErrState},
		{[]api.Span{sp(0, 4), sp(1, 2)}, 4, api.ErrState},
		{[]api.Span{sp(2, 3), sp(3, 4), sp(0, 1)}, 4, api.ErrState},
		// Of one span, Check is told ahead of where it begins.
		{[]api.Span{sp(1, 3), sp(2, 5)}, 4, api.ErrRange},
		// The first span of which something is wrong tells.
		{[]api.Span{sp(2, 2), sp(3, 9)}, 4, api.ErrState},
		{[]api.Span{sp(2, 3), sp(1, 2), sp(3, 9)}, 4, api.ErrState},
	} {
		if l, e := span.Free(c.l, c.legs); l != nil || e != c.want {
			t.Errorf("Free(%v, %d) = %v, %d, not %d", c.l, c.legs, l, e, c.want)
		}
		for _, s := range []api.Span{sp(0, 1), sp(1, 3), sp(-1, 2), sp(2, 2), sp(0, 9)} {
			if l, e := span.Add(c.l, c.legs, s); l != nil || e != c.want {
				t.Errorf("Add(%v, %d, %v) = %v, %d, not %d", c.l, c.legs, s, l, e, c.want)
			}
			if l, e := span.Take(c.l, c.legs, s); l != nil || e != c.want {
				t.Errorf("Take(%v, %d, %v) = %v, %d, not %d", c.l, c.legs, s, l, e, c.want)
			}
		}
	}
}

// TestP1: whatever is handed in, a call answers, and with an error nothing else.
func TestP1(t *testing.T) {
	long := make([]api.Span, 100000)
	lists := [][]api.Span{nil, {}, {sp(1, 3)}, {sp(math.MinInt, math.MaxInt)}, {sp(0, 1), sp(math.MaxInt, math.MinInt)}, long}
	for _, l := range lists {
		for _, legs := range ends() {
			free, e := span.Free(l, legs)
			if e != api.OK && free != nil {
				t.Errorf("Free(.., %d) = %v, %d", legs, free, e)
			}
			for _, s := range spansOfEnds() {
				with, e := span.Add(l, legs, s)
				if e != api.OK && with != nil {
					t.Errorf("Add(.., %d, %v) = %v, %d", legs, s, with, e)
				}
				without, e := span.Take(l, legs, s)
				if e != api.OK && without != nil {
					t.Errorf("Take(.., %d, %v) = %v, %d", legs, s, without, e)
				}
			}
		}
	}
}

// calls whose answers are lists, each of which is right for [1-2 4-5] of 7 legs.
func calls() map[string]func(l []api.Span) ([]api.Span, api.Errno) {
	return map[string]func(l []api.Span) ([]api.Span, api.Errno){
		"Free":             func(l []api.Span) ([]api.Span, api.Errno) { return span.Free(l, 7) },
		"Add ahead":        func(l []api.Span) ([]api.Span, api.Errno) { return span.Add(l, 7, sp(0, 1)) },
		"Add between":      func(l []api.Span) ([]api.Span, api.Errno) { return span.Add(l, 7, sp(2, 4)) },
		"Add behind":       func(l []api.Span) ([]api.Span, api.Errno) { return span.Add(l, 7, sp(5, 6)) },
		"Take the first":   func(l []api.Span) ([]api.Span, api.Errno) { return span.Take(l, 7, sp(1, 2)) },
		"Take the last":    func(l []api.Span) ([]api.Span, api.Errno) { return span.Take(l, 7, sp(4, 5)) },
		"Add to a part":    func(l []api.Span) ([]api.Span, api.Errno) { return span.Add(l[:1], 7, sp(5, 6)) },
		"Take from a part": func(l []api.Span) ([]api.Span, api.Errno) { return span.Take(l[:1], 7, sp(1, 2)) },
	}
}

// TestP2: a list is only read, with the room behind it, and an answer has its own memory.
func TestP2(t *testing.T) {
	for name, call := range calls() {
		room := []api.Span{sp(1, 2), sp(4, 5), sp(77, 78), sp(79, 80)}
		before := slices.Clone(room)
		got, e := call(room[:2])
		if e != api.OK || !reflect.DeepEqual(room, before) {
			t.Errorf("%s: %d, and the list is %v", name, e, room)
		}
		answer := slices.Clone(got)
		for i := range room {
			room[i] = sp(-5, -6)
		}
		if !same(got, answer) {
			t.Errorf("%s: a later change of the list is seen: %v", name, got)
		}
		copy(room, before)
		got = got[:cap(got)]
		for i := range got {
			got[i] = sp(-7, -8)
		}
		if !reflect.DeepEqual(room, before) {
			t.Errorf("%s: a change of the answer is seen: %v", name, room)
		}
	}
}

// TestP3: the same each time, whatever was asked between, and whether an empty list is nil or not.
func TestP3(t *testing.T) {
	l := []api.Span{sp(1, 2), sp(4, 5)}
	first := map[string][]api.Span{}
	for name, call := range calls() {
		first[name], _ = call(l)
	}
	for range 3 {
		for name, call := range calls() {
			if got, e := call(l); e != api.OK || !same(got, first[name]) {
				t.Errorf("%s: %v, %d, and was %v", name, got, e, first[name])
			}
			span.Add(nil, 0, sp(9, 9))
		}
	}
	for _, empty := range [][]api.Span{nil, {}, make([]api.Span, 0, 4)} {
		if got, e := span.Add(empty, 7, sp(2, 3)); e != api.OK || !same(got, []api.Span{sp(2, 3)}) {
			t.Errorf("Add to an empty list: %v, %d", got, e)
		}
		if got, e := span.Take(empty, 7, sp(2, 3)); got != nil || e != api.ErrNone {
			t.Errorf("Take from an empty list: %v, %d", got, e)
		}
		if got, e := span.Free(empty, 7); e != api.OK || !same(got, []api.Span{sp(0, 7)}) {
			t.Errorf("Free of an empty list: %v, %d", got, e)
		}
	}
}
