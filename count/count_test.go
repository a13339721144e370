package count_test

import (
	"math"
	"slices"
	"testing"

	"taffrail/api"
	"taffrail/count"
)

func sp(from, to int) api.Span { return api.Span{From: from, To: to} }

// far numbers: those at the edges of what may be, and those at the ends of int.
func far() []int {
	return []int{math.MinInt, -61, -60, -1, 0, 1, 59, 60, 61, math.MaxInt}
}

// wants: that Check, and all calls with it, tell an error, and nothing else.
func wants(t *testing.T, l []int, legs int, want api.Errno) {
	t.Helper()
	if e := count.Check(l, legs); e != want {
		t.Errorf("Check(%v, %d) = %d, not %d", l, legs, e, want)
	}
	wantsAll(t, l, legs, sp(0, 1), 0, 60, want)
	if want == api.OK {
		return
	}
	wantsAll(t, l, legs, sp(3, 2), -1, 61, want)
	wantsAll(t, l, legs, sp(-1, 99), 61, -1, want)
}

// wantsAll: of the calls that are handed a span. Peak has no n, and only Fits has a most.
func wantsAll(t *testing.T, l []int, legs int, s api.Span, n, most int, want api.Errno) {
	t.Helper()
	wantsNone := func(what string, e api.Errno, zero bool) {
		t.Helper()
		if e != want || want != api.OK && !zero {
			t.Errorf("%s(%v, %d, %v, %d, %d): %d, not %d; nothing else: %v", what, l, legs, s, n, most, e, want, zero)
		}
	}
	a, e := count.Add(l, legs, s, n)
	wantsNone("Add", e, a == nil)
	b, e := count.Take(l, legs, s, n)
	wantsNone("Take", e, b == nil)
	ok, e := count.Fits(l, legs, s, n, most)
	wantsNone("Fits", e, !ok)
	k, at, e := count.Peak(l, legs, s)
	wantsNone("Peak", e, k == 0 && at == 0)
}

func TestC1Check(t *testing.T) {
	for _, legs := range []int{math.MinInt, -1, 0, 8, 9, math.MaxInt} {
		wants(t, nil, legs, api.ErrRange)
		wants(t, []int{}, legs, api.ErrRange)
		wants(t, make([]int, 8), legs, api.ErrRange)
		wants(t, []int{61, -1}, legs, api.ErrRange)
	}
	for legs := 1; legs <= 7; legs++ {
		for n := range 10 {
			want := api.ErrForm
			if n == legs {
				want = api.OK
			}
			wants(t, make([]int, n), legs, want)
		}
		wants(t, nil, legs, api.ErrForm)
		wants(t, make([]int, 100000), legs, api.ErrForm)
	}
	wants(t, []int{61, -1}, 3, api.ErrForm)
	wants(t, []int{0, 0, 0, 61}, 3, api.ErrForm)
}

func TestC1CheckNumbers(t *testing.T) {
	for legs := 1; legs <= 7; legs++ {
		for at := range legs {
			for _, n := range far() {
				l := make([]int, legs)
				l[at] = n
				want := api.ErrRange
				if n >= 0 && n <= 60 {
					want = api.OK
				}
				wants(t, l, legs, want)
			}
		}
	}
	wants(t, []int{60, 60, 60, 60, 60, 60, 60}, 7, api.OK)
}

// TestC1Span: the span's error is told ahead of that of n, and that ahead of what Add and Take find.
func TestC1Span(t *testing.T) {
	l := []int{1, 60, 2}
	for _, c := range []struct {
		s    api.Span
		want api.Errno
	}{
		{sp(-1, 2), api.ErrRange},
		{sp(0, 4), api.ErrRange},
		{sp(3, 4), api.ErrRange},
		{sp(math.MinInt, math.MaxInt), api.ErrRange},
		{sp(5, 4), api.ErrRange},
		{sp(-1, -1), api.ErrRange},
		{sp(math.MaxInt, math.MinInt), api.ErrState},
		{sp(5, 3), api.ErrState},
		{sp(0, 0), api.ErrState},
		{sp(3, 3), api.ErrState},
		{sp(2, 1), api.ErrState},
	} {
		for _, n := range far() {
			wantsAll(t, l, 3, c.s, n, n, c.want)
			wantsAll(t, l, 3, c.s, n, 60, c.want)
		}
	}
}

func TestC1HowMany(t *testing.T) {
	l := []int{0, 30, 60}
	for _, n := range []int{math.MinInt, -61, -1, 61, 62, math.MaxInt} {
		for _, most := range far() {
			a, e := count.Add(l, 3, sp(0, 3), n)
			b, f := count.Take(l, 3, sp(0, 3), n)
			ok, g := count.Fits(l, 3, sp(0, 3), n, most)
			if a != nil || b != nil || ok || e != api.ErrRange || f != api.ErrRange || g != api.ErrRange {
				t.Errorf("of %d, %d: %v %d, %v %d, %v %d", n, most, a, e, b, f, ok, g)
			}
		}
	}
	for _, most := range []int{math.MinInt, -1, 61, 120, math.MaxInt} {
		for n := 0; n <= 60; n++ {
			if ok, e := count.Fits(l, 3, sp(0, 1), n, most); ok || e != api.ErrRange {
				t.Errorf("Fits of %d, %d: %v, %d", n, most, ok, e)
			}
		}
	}
}

func TestC1Told(t *testing.T) {
	l := []int{1, 4, 2, 4}
	for _, c := range []struct {
		s         api.Span
		n         int
		add       []int
		e         api.Errno
		take      []int
		f         api.Errno
		peak, leg int
	}{
		{sp(0, 4), 0, []int{1, 4, 2, 4}, api.OK, []int{1, 4, 2, 4}, api.OK, 4, 1},
		{sp(0, 4), 1, []int{2, 5, 3, 5}, api.OK, []int{0, 3, 1, 3}, api.OK, 4, 1},
		{sp(0, 4), 2, []int{3, 6, 4, 6}, api.OK, nil, api.ErrState, 4, 1},
		{sp(1, 4), 2, []int{1, 6, 4, 6}, api.OK, []int{1, 2, 0, 2}, api.OK, 4, 1},
		{sp(1, 2), 4, []int{1, 8, 2, 4}, api.OK, []int{1, 0, 2, 4}, api.OK, 4, 1},
		{sp(2, 4), 3, []int{1, 4, 5, 7}, api.OK, nil, api.ErrState, 4, 3},
		{sp(2, 3), 58, []int{1, 4, 60, 4}, api.OK, nil, api.ErrState, 2, 2},
		{sp(2, 3), 59, nil, api.ErrMany, nil, api.ErrState, 2, 2},
		{sp(0, 1), 60, nil, api.ErrMany, nil, api.ErrState, 1, 0},
		{sp(3, 4), 4, []int{1, 4, 2, 8}, api.OK, []int{1, 4, 2, 0}, api.OK, 4, 3},
		{sp(0, 3), 57, nil, api.ErrMany, nil, api.ErrState, 4, 1},
	} {
		if a, e := count.Add(l, 4, c.s, c.n); e != c.e || !slices.Equal(a, c.add) {
			t.Errorf("Add(%v, %d) = %v, %d", c.s, c.n, a, e)
		}
		if b, e := count.Take(l, 4, c.s, c.n); e != c.f || !slices.Equal(b, c.take) {
			t.Errorf("Take(%v, %d) = %v, %d", c.s, c.n, b, e)
		}
		if n, at, e := count.Peak(l, 4, c.s); e != api.OK || n != c.peak || at != c.leg {
			t.Errorf("Peak(%v) = %d, %d, %d", c.s, n, at, e)
		}
	}
}

// each goes through all counts of up to four legs whose numbers are some of those at the edges, with all their spans.
func each(do func(l []int, s api.Span)) {
	numbers := []int{0, 1, 2, 30, 59, 60}
	for legs := 1; legs <= 4; legs++ {
		all := 1
		for range legs {
			all *= len(numbers)
		}
		for which := range all {
			l := make([]int, legs)
			for i := range l {
				l[i] = numbers[which%len(numbers)]
				which /= len(numbers)
			}
			for from := range legs {
				for to := from + 1; to <= legs; to++ {
					do(l, sp(from, to))
				}
			}
		}
	}
}

// most and least of a span's legs, told leg by leg.
func most(l []int, s api.Span) (most, at, least int) {
	most, least = -1, math.MaxInt
	for leg, n := range l {
		if leg < s.From || leg >= s.To {
			continue
		}
		if n > most {
			most, at = n, leg
		}
		least = min(least, n)
	}
	return most, at, least
}

func TestC1Each(t *testing.T) {
	each(func(l []int, s api.Span) {
		peak, at, least := most(l, s)
		if n, leg, e := count.Peak(l, len(l), s); n != peak || leg != at || e != api.OK {
			t.Fatalf("Peak(%v, %v) = %d, %d, %d", l, s, n, leg, e)
		}
		for _, n := range []int{0, 1, 2, 29, 30, 31, 59, 60} {
			wantMoved(t, "Add", l, s, n, peak+n > 60, api.ErrMany, count.Add)
			wantMoved(t, "Take", l, s, -n, least < n, api.ErrState, count.Take)
		}
	})
}

// wantMoved: each leg of a span has n more (or less, if n is below 0), and no other one, or an error is told.
func wantMoved(t *testing.T, what string, l []int, s api.Span, n int, wrong bool, want api.Errno, call func([]int, int, api.Span, int) ([]int, api.Errno)) {
	t.Helper()
	out, e := call(l, len(l), s, max(n, -n))
	if wrong {
		if out != nil || e != want {
			t.Fatalf("%s(%v, %v, %d) = %v, %d, not %d", what, l, s, n, out, e, want)
		}
		return
	}
	if e != api.OK || len(out) != len(l) || count.Check(out, len(out)) != api.OK {
		t.Fatalf("%s(%v, %v, %d) = %v, %d", what, l, s, n, out, e)
	}
	for leg, on := range out {
		more := 0
		if leg >= s.From && leg < s.To {
			more = n
		}
		if on != l[leg]+more {
			t.Fatalf("%s(%v, %v, %d) = %v", what, l, s, n, out)
		}
	}
}

// TestC2Taken: what is added is taken again, and what is taken is added again.
func TestC2Taken(t *testing.T) {
	added, taken := 0, 0
	again := func(l []int, s api.Span, n int, there, back func([]int, int, api.Span, int) ([]int, api.Errno)) int {
		with, e := there(l, len(l), s, n)
		if e != api.OK {
			return 0
		}
		if again, f := back(with, len(l), s, n); f != api.OK || !slices.Equal(again, l) {
			t.Fatalf("%v, %v, %d: %v, then %v, %d", l, s, n, with, again, f)
		}
		return 1
	}
	each(func(l []int, s api.Span) {
		for _, n := range []int{0, 1, 2, 30, 60} {
			added += again(l, s, n, count.Add, count.Take)
			taken += again(l, s, n, count.Take, count.Add)
		}
	})
	if added == 0 || taken == 0 {
		t.Errorf("%d times added, %d times taken", added, taken)
	}
}

// TestC2Fits: so many fit just if they do where most are; and to MaxSouls just if they may be added.
func TestC2Fits(t *testing.T) {
	each(func(l []int, s api.Span) {
		peak, _, e := count.Peak(l, len(l), s)
		if e != api.OK {
			t.Fatalf("Peak(%v, %v): %d", l, s, e)
		}
		for _, n := range []int{0, 1, 2, 30, 60} {
			for _, most := range []int{0, 1, 2, 3, 31, 32, 58, 59, 60} {
				if ok, e := count.Fits(l, len(l), s, n, most); ok != (peak+n <= most) || e != api.OK {
					t.Fatalf("Fits(%v, %v, %d, %d) = %v, %d", l, s, n, most, ok, e)
				}
			}
			fits, _ := count.Fits(l, len(l), s, n, 60)
			if _, e := count.Add(l, len(l), s, n); fits != (e == api.OK) {
				t.Fatalf("Fits(%v, %v, %d, 60) = %v, and Add: %d", l, s, n, fits, e)
			}
		}
	})
}

// TestP2: what is handed in, with the room behind it, stays as it was; an answer is new memory.
func TestP2(t *testing.T) {
	all := []int{1, 4, 2, 77, 78}
	was := slices.Clone(all)
	l := all[:3]
	for _, n := range []int{0, 1} {
		for _, s := range []api.Span{sp(0, 3), sp(2, 3)} {
			count.Check(l, 3)
			count.Fits(l, 3, s, n, 60)
			count.Peak(l, 3, s)
			a, _ := count.Add(l, 3, s, n)
			b, _ := count.Take(l, 3, s, n)
			for _, out := range [][]int{a, b} {
				for i := range out[:cap(out)] {
					out[:cap(out)][i] = 99
				}
			}
			if !slices.Equal(all, was) {
				t.Fatalf("Add, Take of %v, %d: %v was handed in, and is %v", s, n, was, all)
			}
		}
	}
	a, _ := count.Add(l, 3, sp(0, 1), 0)
	b, _ := count.Take(l, 3, sp(0, 1), 0)
	l[0], l[1], l[2] = 5, 6, 7
	if !slices.Equal(a, was[:3]) || !slices.Equal(b, was[:3]) {
		t.Errorf("a later change is seen: %v, %v", a, b)
	}
}

// TestP3: the same each time, whatever was asked between.
func TestP3(t *testing.T) {
	for range 50 {
		a, e := count.Add([]int{1, 4, 2}, 3, sp(1, 3), 2)
		if !slices.Equal(a, []int{1, 6, 4}) || e != api.OK {
			t.Fatalf("Add: %v, %d", a, e)
		}
		if b, e := count.Take(a, 3, sp(0, 3), 2); b != nil || e != api.ErrState {
			t.Fatalf("Take: %v, %d", b, e)
		}
		if ok, e := count.Fits(a, 3, sp(0, 3), 2, 8); !ok || e != api.OK {
			t.Fatalf("Fits: %v, %d", ok, e)
		}
		if n, at, e := count.Peak(a, 3, sp(2, 3)); n != 4 || at != 2 || e != api.OK {
			t.Fatalf("Peak: %d, %d, %d", n, at, e)
		}
	}
}
