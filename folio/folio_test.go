package folio_test

import (
	"math"
	"slices"
	"testing"

	"taffrail/api"
	"taffrail/folio"
)

const most = 100000000

func en(day, kind, amount int) api.Entry {
	return api.Entry{Day: day, Kind: kind, Amount: amount}
}

// wants: that Check, and all calls with it, tell an error, and nothing else. A wrong folio is told ahead of all else that is wrong.
func wants(t *testing.T, what string, l []api.Entry, want api.Errno) {
	t.Helper()
	if e := folio.Check(l); e != want {
		t.Errorf("%s: Check(%v) = %d, not %d", what, l, e, want)
	}
	n, e := folio.Owed(l)
	if e != want || want != api.OK && n != 0 {
		t.Errorf("%s: Owed(%v) = %d, %d, not %d", what, l, n, e, want)
	}
	if want == api.OK {
		return
	}
	for _, x := range []api.Entry{en(9999, 1, 0), en(0, 9, 0), en(-1, 1, 0), en(0, 1, -1), {}} {
		if a, e := folio.Add(l, x); a != nil || e != want {
			t.Errorf("%s: Add(%v, %v) = %v, %d, not %d", what, l, x, a, e, want)
		}
	}
	for _, penalty := range []int{math.MinInt, -1, 0, 1, most, most + 1, math.MaxInt} {
		for _, day := range []int{math.MinInt, -1, 0, 9999, 10000} {
			if c, e := folio.Cancel(l, day, penalty); c != nil || e != want {
				t.Errorf("%s: Cancel(%v, %d, %d) = %v, %d, not %d", what, l, day, penalty, c, e, want)
			}
		}
	}
}

func TestF1Check(t *testing.T) {
	for _, c := range []struct {
		name string
		l    []api.Entry
		want api.Errno
	}{
		{"none", nil, api.OK},
		{"empty", []api.Entry{}, api.OK},
		{"fare", []api.Entry{en(1, 1, 1000)}, api.OK},
		{"of nothing", []api.Entry{en(0, 1, 0), en(0, 2, 0), en(0, 3, 0), en(0, 4, 0)}, api.OK},
		{"all kinds", []api.Entry{en(1, 1, 1000), en(1, 2, -1000), en(2, 4, -1000), en(2, 3, 200), en(9999, 4, 800)}, api.OK},
		{"the sum at its most", []api.Entry{en(1, 1, most), en(1, 2, -most), en(1, 1, most)}, api.OK},
		{"the sum at its least", []api.Entry{en(1, 2, -most), en(1, 4, most), en(1, 4, -most)}, api.OK},
		{"day less", []api.Entry{en(2, 1, 1), en(1, 1, 1)}, api.ErrState},
		{"day less at last", []api.Entry{en(2, 1, 1), en(3, 1, 1), en(2, 1, 1)}, api.ErrState},
		{"sum of more", []api.Entry{en(1, 1, most), en(1, 1, 1)}, api.ErrRange},
		{"sum of more between", []api.Entry{en(1, 1, most), en(1, 1, 1), en(1, 2, -1)}, api.ErrRange},
		{"sum of less", []api.Entry{en(1, 2, -most), en(1, 2, -1)}, api.ErrRange},
		{"sum of less between", []api.Entry{en(1, 4, -most), en(1, 4, -1), en(1, 1, 1)}, api.ErrRange},
		{"sum of penalties and fares", []api.Entry{en(1, 1, most-1), en(1, 3, 2)}, api.ErrRange},
		{"a kind ahead of an earlier sum", []api.Entry{en(1, 1, most), en(1, 1, 1), en(1, 5, 0)}, api.ErrKind},
		{"a state ahead of an earlier sum", []api.Entry{en(1, 1, most), en(1, 1, 1), en(0, 1, 0)}, api.ErrState},
		{"a state ahead of its own sum", []api.Entry{en(1, 1, most), en(0, 1, 1)}, api.ErrState},
		{"the first wrong one tells", []api.Entry{en(1, 1, -1), en(1, 9, 0)}, api.ErrState},
		{"the first wrong one tells its range", []api.Entry{en(-1, 1, 0), en(1, 9, 0)}, api.ErrRange},
		{"the first wrong one tells its kind", []api.Entry{en(1, 0, 0), en(-1, 1, 0)}, api.ErrKind},
		{"wrong days tell ahead of a later kind", []api.Entry{en(2, 1, 0), en(1, 1, 0), en(1, 9, 0)}, api.ErrState},
	} {
		wants(t, c.name, c.l, c.want)
	}
}

func TestF1Many(t *testing.T) {
	for n := range 16 {
		var l, wrong []api.Entry
		for i := range n {
			l = append(l, en(i, 1, 10))
			wrong = append(wrong, en(-1, 9, most+1))
		}
		want, worse := api.OK, api.ErrKind
		if n > 12 {
			want, worse = api.ErrMany, api.ErrMany
		}
		wants(t, "many", l, want)
		if n > 0 {
			wants(t, "many wrong ones", wrong, worse)
		}
	}
	wants(t, "far too many", make([]api.Entry, 100000), api.ErrMany)
}

// wanted: what is wrong of an entry behind one of a day, by the words of the document.
func wanted(x api.Entry, day int) api.Errno {
	if x.Kind != 1 && x.Kind != 2 && x.Kind != 3 && x.Kind != 4 {
		return api.ErrKind
	}
	if x.Day < 0 || x.Day > 9999 || x.Amount < -most || x.Amount > most {
		return api.ErrRange
	}
	if (x.Kind == 1 || x.Kind == 3) && x.Amount < 0 || x.Kind == 2 && x.Amount > 0 {
		return api.ErrState
	}
	if x.Day < day {
		return api.ErrState
	}
	return api.OK
}

// eachEntry goes through entries of all that may be wrong, at the edges.
func eachEntry(do func(x api.Entry)) {
	for _, kind := range []int{math.MinInt, -1, 0, 1, 2, 3, 4, 5, math.MaxInt} {
		for _, day := range []int{math.MinInt, -1, 0, 4, 5, 6, 9999, 10000, math.MaxInt} {
			for _, amount := range []int{math.MinInt, -most - 1, -most, -1, 0, 1, most, most + 1, math.MaxInt} {
				do(en(day, kind, amount))
			}
		}
	}
}

func TestF1Entry(t *testing.T) {
	eachEntry(func(x api.Entry) {
		wants(t, "one", []api.Entry{x}, wanted(x, 0))
		wants(t, "second", []api.Entry{en(5, 1, 0), x}, wanted(x, 5))
		wants(t, "ahead", []api.Entry{x, en(9999, 1, 0)}, wanted(x, 0))
	})
}

// TestF1Add: with an entry behind all, or what is wrong of it, and nothing.
func TestF1Add(t *testing.T) {
	l := []api.Entry{en(1, 1, 7), en(5, 2, -7)}
	eachEntry(func(x api.Entry) {
		want := wanted(x, 5)
		a, e := folio.Add(l, x)
		if e != want || want == api.OK && !slices.Equal(a, []api.Entry{l[0], l[1], x}) || want != api.OK && a != nil {
			t.Errorf("Add of %v = %v, %d, not %d", x, a, e, want)
		}
	})
	owing := []api.Entry{en(1, 1, most)}
	if a, e := folio.Add(owing, en(1, 3, 1)); a != nil || e != api.ErrRange {
		t.Errorf("Add to the most: %v, %d", a, e)
	}
	if a, e := folio.Add(owing, en(1, 3, 0)); len(a) != 2 || e != api.OK {
		t.Errorf("Add of nothing: %v, %d", a, e)
	}
}

func TestF1AddMany(t *testing.T) {
	var l []api.Entry
	for i := range 12 {
		a, e := folio.Add(l, en(i, 1, i))
		if e != api.OK || len(a) != i+1 || a[i] != en(i, 1, i) || !slices.Equal(a[:i], l) {
			t.Fatalf("Add of entry %d: %v, %d", i, a, e)
		}
		l = a
	}
	for _, x := range []api.Entry{en(12, 1, 1), en(12, 9, 1), en(-1, 1, 1), en(0, 1, 1)} {
		if a, e := folio.Add(l, x); a != nil || e != api.ErrMany {
			t.Errorf("Add of %v to twelve: %v, %d", x, a, e)
		}
	}
}

func TestF1Owed(t *testing.T) {
	for _, c := range []struct {
		l    []api.Entry
		want int
	}{
		{nil, 0},
		{[]api.Entry{en(1, 1, 1000)}, 1000},
		{[]api.Entry{en(1, 1, 1000), en(2, 2, -400)}, 600},
		{[]api.Entry{en(1, 1, 1000), en(2, 2, -400), en(3, 3, 50), en(3, 4, -1000)}, -350},
		{[]api.Entry{en(1, 2, -50)}, -50},
		{[]api.Entry{en(1, 4, 50), en(1, 4, 1)}, 51},
		{[]api.Entry{en(1, 2, -most)}, -most},
		{[]api.Entry{en(1, 1, most), en(1, 2, -most), en(1, 1, most)}, most},
	} {
		if n, e := folio.Owed(c.l); n != c.want || e != api.OK {
			t.Errorf("Owed(%v) = %d, %d", c.l, n, e)
		}
	}
}
