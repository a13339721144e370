package folio_test

import (
	"math"
	"slices"
	"testing"

	"taffrail/api"
	"taffrail/folio"
)

func TestF2Told(t *testing.T) {
	for _, c := range []struct {
		name    string
		l       []api.Entry
		penalty int
		come    []api.Entry
	}{
		{"nothing", nil, 0, nil},
		{"a penalty alone", nil, 100, []api.Entry{en(7, 3, 100)}},
		{"a fare", []api.Entry{en(1, 1, 1000)}, 0, []api.Entry{en(7, 4, -1000)}},
		{"two fares", []api.Entry{en(1, 1, 1000), en(7, 1, 1)}, 0, []api.Entry{en(7, 4, -1001)}},
		{"a fare and a penalty", []api.Entry{en(1, 1, 1000)}, 100, []api.Entry{en(7, 4, -1000), en(7, 3, 100)}},
		{"paid", []api.Entry{en(1, 1, 1000), en(2, 2, -400)}, 0, []api.Entry{en(7, 4, -1000), en(7, 4, 400)}},
		{"paid, and a penalty of less", []api.Entry{en(1, 1, 1000), en(2, 2, -400)}, 100, []api.Entry{en(7, 4, -1000), en(7, 3, 100), en(7, 4, 300)}},
		{"paid, and a penalty of as much", []api.Entry{en(1, 1, 1000), en(2, 2, -400)}, 400, []api.Entry{en(7, 4, -1000), en(7, 3, 400)}},
		{"paid, and a penalty of one less", []api.Entry{en(1, 1, 1000), en(2, 2, -400)}, 399, []api.Entry{en(7, 4, -1000), en(7, 3, 399), en(7, 4, 1)}},
		{"paid, and a penalty of more", []api.Entry{en(1, 1, 1000), en(2, 2, -400)}, 401, []api.Entry{en(7, 4, -1000), en(7, 3, 401)}},
		{"paid without a fare", []api.Entry{en(2, 2, -50)}, 0, []api.Entry{en(7, 4, 50)}},
		{"a fare that was taken back", []api.Entry{en(1, 1, 50), en(1, 4, -50)}, 0, nil},
		{"a fare of which something was taken back", []api.Entry{en(1, 1, 50), en(1, 4, -20)}, 0, []api.Entry{en(7, 4, -30)}},
		{"more was taken back than the fare", []api.Entry{en(1, 1, 50), en(1, 4, -70)}, 0, []api.Entry{en(7, 4, 20)}},
		{"a penalty from earlier stays", []api.Entry{en(1, 1, 50), en(2, 3, 10)}, 5, []api.Entry{en(7, 4, -50), en(7, 3, 5)}},
		{"a penalty from earlier that was paid", []api.Entry{en(2, 3, 10), en(3, 2, -30)}, 5, []api.Entry{en(7, 3, 5), en(7, 4, 15)}},
		{"cancelled already", []api.Entry{en(1, 1, 1000), en(1, 2, -1000), en(2, 4, -1000), en(2, 3, 200), en(2, 4, 800)}, 100, []api.Entry{en(7, 4, -800), en(7, 3, 100), en(7, 4, 700)}},
		{"the most", []api.Entry{en(1, 1, most), en(1, 2, -most)}, most, []api.Entry{en(7, 4, -most), en(7, 3, most)}},
		{"the most goes back", []api.Entry{en(1, 1, most), en(1, 2, -most)}, 0, []api.Entry{en(7, 4, -most), en(7, 4, most)}},
		{"the most of a penalty", nil, most, []api.Entry{en(7, 3, most)}},
	} {
		want := append(slices.Clone(c.l), c.come...)
		if l, e := folio.Cancel(c.l, 7, c.penalty); !slices.Equal(l, want) || e != api.OK {
			t.Errorf("%s: Cancel = %v, %d, not %v", c.name, l, e, want)
		}
	}
}

func TestF2Wrong(t *testing.T) {
	full := make([]api.Entry, 12)
	for i := range full {
		full[i] = en(3, 1, 10)
	}
	paid := []api.Entry{en(1, 1, 1000), en(5, 2, -1000)}
	for _, c := range []struct {
		name         string
		l            []api.Entry
		day, penalty int
		want         api.Errno
	}{
		{"penalty below 0", paid, 5, -1, api.ErrRange},
		{"great penalty", paid, 5, most + 1, api.ErrRange},
		{"least penalty", paid, 5, math.MinInt, api.ErrRange},
		{"greatest penalty", paid, 5, math.MaxInt, api.ErrRange},
		{"penalty ahead of many", full, 5, -1, api.ErrRange},
		{"penalty ahead of the day", paid, 4, -1, api.ErrRange},
		{"great penalty ahead of many", full, 5, most + 1, api.ErrRange},
		{"great penalty ahead of the day", paid, 4, most + 1, api.ErrRange},
		{"greatest penalty ahead of the day", paid, 4, math.MaxInt, api.ErrRange},
		{"many", full, 5, 0, api.ErrMany},
		{"many ahead of the day", full, -1, 0, api.ErrMany},
		{"day less", paid, 4, 0, api.ErrState},
		{"day below 0", paid, -1, 0, api.ErrRange},
		{"least day", paid, math.MinInt, 0, api.ErrRange},
		{"late day", paid, 10000, 0, api.ErrRange},
		{"greatest day", paid, math.MaxInt, 0, api.ErrRange},
		{"late day of a penalty alone", nil, 10000, 1, api.ErrRange},
		{"late day of what goes back alone", []api.Entry{en(1, 2, -1)}, 10000, 0, api.ErrRange},
		{"fares of more than an entry may be", []api.Entry{en(1, 1, most), en(1, 2, -1), en(1, 1, 1)}, 5, 0, api.ErrRange},
		{"more taken back than an entry may be", []api.Entry{en(1, 4, -most), en(1, 3, 1), en(1, 4, -1)}, 5, 0, api.ErrRange},
		{"the sum runs over at the penalty", []api.Entry{en(1, 3, most), en(1, 4, 0)}, 5, 1, api.ErrRange},
		{"the sum runs under at what is taken back", []api.Entry{en(1, 1, most), en(1, 2, -most), en(1, 2, -1)}, 5, most, api.ErrRange},
		{"the sum runs over at what is taken back", []api.Entry{en(1, 4, -most), en(1, 3, most), en(1, 3, 1)}, 5, 0, api.ErrRange},
	} {
		if l, e := folio.Cancel(c.l, c.day, c.penalty); l != nil || e != c.want {
			t.Errorf("%s: Cancel = %v, %d, not %d", c.name, l, e, c.want)
		}
	}
}

// TestF2Nothing: if nothing comes, there is nothing that the day could be wrong of.
func TestF2Nothing(t *testing.T) {
	for _, l := range [][]api.Entry{nil, {en(5, 1, 50), en(5, 4, -50)}, {en(5, 3, 20), en(5, 2, -10)}} {
		for _, day := range []int{math.MinInt, -1, 4, 10000, math.MaxInt} {
			if c, e := folio.Cancel(l, day, 0); !slices.Equal(c, l) || e != api.OK {
				t.Errorf("Cancel(%v, %d, 0) = %v, %d", l, day, c, e)
			}
		}
	}
}

// TestF2Room: how many may come, behind how many.
func TestF2Room(t *testing.T) {
	for n := 2; n <= 12; n++ {
		l := []api.Entry{en(1, 1, 100), en(1, 2, -60)}
		for len(l) < n {
			l = append(l, en(1, 1, 0))
		}
		for _, c := range []struct{ penalty, come int }{{0, 2}, {20, 3}, {60, 2}, {61, 2}} {
			out, e := folio.Cancel(l, 1, c.penalty)
			want := api.OK
			if n+c.come > 12 {
				want = api.ErrMany
			}
			if e != want || want == api.OK && len(out) != n+c.come || want != api.OK && out != nil {
				t.Errorf("Cancel of %d, %d: %v, %d", n, c.penalty, out, e)
			}
		}
	}
}

// eachFolio goes through all right folios of up to so many entries of some amounts.
func eachFolio(l []api.Entry, many int, do func(l []api.Entry)) {
	do(l)
	if len(l) == many {
		return
	}
	for kind := 1; kind <= 4; kind++ {
		for _, amount := range []int{-most, -3, -1, 0, 1, 2, most} {
			with := append(l[:len(l):len(l)], en(len(l), kind, amount))
			if folio.Check(with) == api.OK {
				eachFolio(with, many, do)
			}
		}
	}
}

// of: the sum of all entries of some kinds.
func of(l []api.Entry, kinds ...int) int {
	n := 0
	for _, x := range l {
		if slices.Contains(kinds, x.Kind) {
			n += x.Amount
		}
	}
	return n
}

// TestF3: behind Cancel no fare is left, and nothing is owed but what of the penalties was not paid; what was there stays, and what comes is as the document says.
func TestF3(t *testing.T) {
	done, refused := 0, 0
	eachFolio(nil, 4, func(l []api.Entry) {
		for _, penalty := range []int{0, 1, 3, most} {
			out, e := folio.Cancel(l, 9, penalty)
			unpaid := of(l, api.EntryPaid, api.EntryPenalty) + penalty
			if e != api.OK {
				refused++
				// what comes runs out of what may be: one of the sums does, or an amount.
				back := of(l, api.EntryFare, api.EntryBack)
				if e != api.ErrRange || max(back, -back, unpaid, -unpaid, unpaid-penalty, penalty-unpaid) <= most {
					t.Fatalf("Cancel(%v, 9, %d): %d", l, penalty, e)
				}
				continue
			}
			done++
			owed, f := folio.Owed(out)
			if f != api.OK || owed != max(0, unpaid) || !slices.Equal(out[:len(l)], l) {
				t.Fatalf("Cancel(%v, 9, %d) = %v: %d, %d", l, penalty, out, owed, f)
			}
			come := out[len(l):]
			if of(come, api.EntryPenalty) != penalty || of(come, api.EntryFare, api.EntryPaid) != 0 || of(out, api.EntryFare, api.EntryBack) != max(0, -unpaid) {
				t.Fatalf("Cancel(%v, 9, %d) = %v", l, penalty, out)
			}
			if slices.ContainsFunc(come, func(x api.Entry) bool { return x.Day != 9 || x.Amount == 0 }) {
				t.Fatalf("Cancel(%v, 9, %d) = %v", l, penalty, out)
			}
		}
	})
	if done < 10000 || refused < 1000 {
		t.Errorf("%d times done, %d times refused", done, refused)
	}
}

// TestP2: what is handed in, with the room behind it, stays as it was; an answer is new memory.
func TestP2(t *testing.T) {
	all := []api.Entry{en(1, 1, 1000), en(2, 2, -400), en(77, 7, 77), en(78, 7, 78), en(79, 7, 79), en(80, 7, 80)}
	was := slices.Clone(all)
	l := all[:2]
	x := en(2, 3, 1)
	folio.Check(l)
	folio.Owed(l)
	added, _ := folio.Add(l, x)
	cancelled, _ := folio.Cancel(l, 2, 100)
	same, _ := folio.Cancel([]api.Entry{}, 2, 0)
	kept := []api.Entry{en(5, 3, 5)}
	still, _ := folio.Cancel(kept, 5, 0)
	if !slices.Equal(all, was) || len(added) != 3 || len(cancelled) != 5 || len(same) != 0 || !slices.Equal(still, kept) {
		t.Fatalf("%v was handed in, and is %v; %v, %v, %v, %v", was, all, added, cancelled, same, still)
	}
	first, second := slices.Clone(added), slices.Clone(cancelled)
	l[0].Amount, kept[0].Amount = 7, 7
	if !slices.Equal(added, first) || !slices.Equal(cancelled, second) || still[0].Amount != 5 {
		t.Errorf("a later change is seen: %v, %v, %v", added, cancelled, still)
	}
	l[0].Amount, kept[0].Amount = 1000, 5
	for _, out := range [][]api.Entry{added, cancelled, same, still} {
		for i := range out[:cap(out)] {
			out[:cap(out)][i] = en(99, 9, 99)
		}
	}
	if !slices.Equal(all, was) || kept[0].Amount != 5 {
		t.Errorf("an answer shares memory: %v, %v", all, kept)
	}
}

// TestP3: the same each time, whatever was asked between.
func TestP3(t *testing.T) {
	for range 50 {
		l, e := folio.Add([]api.Entry{en(1, 1, 1000)}, en(2, 2, -400))
		if len(l) != 2 || e != api.OK {
			t.Fatalf("Add: %v, %d", l, e)
		}
		c, e := folio.Cancel(l, 3, 100)
		if !slices.Equal(c, []api.Entry{en(1, 1, 1000), en(2, 2, -400), en(3, 4, -1000), en(3, 3, 100), en(3, 4, 300)}) || e != api.OK {
			t.Fatalf("Cancel: %v, %d", c, e)
		}
		if n, e := folio.Owed(l); n != 600 || e != api.OK {
			t.Fatalf("Owed: %d, %d", n, e)
		}
		if c, e := folio.Cancel(l, 1, 100); c != nil || e != api.ErrState {
			t.Fatalf("Cancel of an earlier day: %v, %d", c, e)
		}
	}
}
