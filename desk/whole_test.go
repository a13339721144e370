package desk_test

import (
	"fmt"
	"math/rand/v2"
	"slices"
	"testing"

	"taffrail/api"
	"taffrail/book"
	"taffrail/code"
	"taffrail/count"
	"taffrail/desk"
	"taffrail/fare"
	"taffrail/match"
	"taffrail/ship"
	"taffrail/span"
	"taffrail/stock"
	"taffrail/voyage"
)

// others: the bookings but that of an Id.
func others(s api.Sailing, id int) []api.Booking {
	return slices.DeleteFunc(slices.Clone(s.Bookings), func(b api.Booking) bool { return b.Id == id })
}

// TestWholeRight: what is sold, or changed, leaves a sailing right, and all other bookings as they were.
func TestWholeRight(t *testing.T) {
	through(t, 2, 80, 40, func(s api.Sailing, a api.Ask, next api.Sailing, answer api.Answer) {
		if e := stock.Check(next); e != api.OK {
			t.Errorf("%v is not right: %d", next, e)
		}
		if !same(s.Ship, next.Ship) || !same(s.Fares, next.Fares) || s.Leaves != next.Leaves {
			t.Errorf("%v became %v", s, next)
		}
		if a.Kind == api.AskDay || a.Kind == api.AskClose {
			return
		}
		if !same(others(s, a.Id), others(next, a.Id)) || s.Day != next.Day || s.Closed != next.Closed {
			t.Errorf("%v: %v became %v", a, s, next)
		}
	})
}

// TestWholeClose: Close is always there, and each promise can be kept: it is, by a cabin of its own that serves it.
func TestWholeClose(t *testing.T) {
	kept := 0
	through(t, 3, 60, 40, func(_ api.Sailing, _ api.Ask, s api.Sailing, _ api.Answer) {
		next, answer, e := desk.Do(s, askClose(1))
		if e != api.OK || s.Closed != (answer.Errno == api.ErrState) || !next.Closed {
			t.Fatalf("%v: %v, %d", s, answer, e)
		}
		had := map[int]int{}
		for _, b := range next.Bookings {
			if b.State == api.StateGone || b.Kind != api.KindPromise {
				continue
			}
			kept++
			c := next.Ship.Cabins[b.Cabin]
			had[b.Cabin]++
			if ok, e := ship.Serves(next.Ship, c.Category, b.Category); !ok || e != api.OK || c.Berths < b.Guests || b.Level && !c.Level || had[b.Cabin] > 1 {
				t.Errorf("%v keeps %v", c, b)
			}
		}
	})
	if kept < 500 {
		t.Errorf("only %d were kept", kept)
	}
}

// sums of a folio: its penalties, and what was paid (below 0).
func sums(l []api.Entry) (penalties, payments int) {
	for _, x := range l {
		switch x.Kind {
		case api.EntryPenalty:
			penalties += x.Amount
		case api.EntryPaid:
			payments += x.Amount
		}
	}
	return penalties, payments
}

// TestWholePenalty: a penalty is never more than the price, nor more the earlier one cancels; behind cancel nothing is owed but what of it was not paid.
func TestWholePenalty(t *testing.T) {
	went, owes := 0, 0
	through(t, 4, 120, 40, func(s api.Sailing, a api.Ask, next api.Sailing, answer api.Answer) {
		if a.Kind == api.AskCancel && answer.Errno == api.OK {
			b := next.Bookings[slices.IndexFunc(next.Bookings, func(b api.Booking) bool { return b.Id == a.Id })]
			penalties, payments := sums(b.Folio)
			if penalties > b.Folio[0].Amount || answer.Owed != max(0, penalties+payments) {
				t.Errorf("%v: %v", b, answer)
			}
			went++
			owes += min(1, answer.Owed)
		}
		for _, b := range next.Bookings {
			price, least := b.Folio[0].Amount, b.Folio[0].Amount
			for days := range 25 {
				n, e := fare.Penalty(s.Fares, 3, 3, price, days)
				if n < 0 || n > least || e != api.OK {
					t.Errorf("of %d, %d days ahead: %d, %d", price, days, n, e)
				}
				least = n
			}
		}
	})
	if went < 100 || owes < 10 {
		t.Errorf("only %d went, and %d owe", went, owes)
	}
}

// seen of a sailing from without: what is free, who is on board, which promises are open, who has which cabin.
func seen(t *testing.T, s api.Sailing) string {
	t.Helper()
	souls, e := book.Souls(s.Ship, s.Bookings)
	ids, edges, f := stock.Promises(s)
	plan, g := voyage.Plan(s)
	if e != api.OK || f != api.OK || g != api.OK {
		t.Fatal(e, f, g)
	}
	out := fmt.Sprint(souls, ids, edges, plan)
	for cabin := range s.Ship.Cabins {
		had, e := book.Spans(s.Ship, s.Bookings, cabin)
		free, f := stock.Free(s, cabin)
		out += fmt.Sprint(had, free, e, f)
	}
	return out
}

// TestWholeGone: without the bookings that are gone all is the same.
func TestWholeGone(t *testing.T) {
	left := 0
	through(t, 5, 60, 40, func(_ api.Sailing, _ api.Ask, s api.Sailing, _ api.Answer) {
		live := s
		live.Bookings = slices.DeleteFunc(slices.Clone(s.Bookings), func(b api.Booking) bool { return b.State == api.StateGone })
		if len(live.Bookings) == len(s.Bookings) {
			return
		}
		left++
		if was, is := seen(t, s), seen(t, live); was != is {
			t.Errorf("with those that are gone it is %v, without them %v", was, is)
		}
	})
	if left < 500 {
		t.Errorf("only %d had one that is gone", left)
	}
}

// TestWholeTaken: what is added is taken again: spans of each cabin, and how many are on board.
func TestWholeTaken(t *testing.T) {
	through(t, 6, 40, 40, func(_ api.Sailing, _ api.Ask, s api.Sailing, _ api.Answer) {
		souls, e := book.Souls(s.Ship, s.Bookings)
		if e != api.OK {
			t.Fatal(e)
		}
		for cabin := range s.Ship.Cabins {
			had, e := book.Spans(s.Ship, s.Bookings, cabin)
			free, f := stock.Free(s, cabin)
			if e != api.OK || f != api.OK {
				t.Fatal(e, f)
			}
			for _, x := range free {
				more, e := span.Add(had, 3, x)
				again, f := span.Take(more, 3, x)
				if !same(again, had) || len(more) != len(had)+1 || e != api.OK || f != api.OK {
					t.Errorf("%v, with %v: %v, then %v", had, x, more, again)
				}
				on, e := count.Add(souls, 3, x, 4)
				off, f := count.Take(on, 3, x, 4)
				if !same(off, souls) || same(on, souls) || e != api.OK || f != api.OK {
					t.Errorf("%v, with 4 on %v: %v, then %v", souls, x, on, off)
				}
			}
		}
	})
}

// TestWholeServes: who serves who serves serves, and no two serve one another.
func TestWholeServes(t *testing.T) {
	r := rand.New(rand.NewPCG(8, 9))
	right := 0
	for range 3000 {
		s := packet().Ship
		s.Categories = slices.Repeat(s.Categories[2:], 5)
		for i := range s.Categories {
			s.Categories[i].Name = string(rune('A' + i))
			for j := range s.Categories {
				if r.IntN(4) == 0 {
					s.Categories[i].Higher = append(s.Categories[i].Higher, j)
				}
			}
		}
		if ship.Check(s) != api.OK {
			continue
		}
		right++
		serves := func(a, b int) bool {
			ok, e := ship.Serves(s, a, b)
			return ok && e == api.OK
		}
		for a := range 5 {
			for b := range 5 {
				if a != b && serves(a, b) && serves(b, a) {
					t.Fatalf("%v: %d and %d serve one another", s, a, b)
				}
				for c := range 5 {
					if serves(a, b) && serves(b, c) && !serves(a, c) {
						t.Fatalf("%v: %d serves %d, that %d, but not the first the last", s, a, b, c)
					}
				}
			}
		}
	}
	if right < 100 {
		t.Errorf("only %d were right", right)
	}
}

// TestWholeMatched: all promises are matched, or some lack cabins; never both. In a sailing that is right, the first.
func TestWholeMatched(t *testing.T) {
	lacking := 0
	through(t, 10, 60, 40, func(_ api.Sailing, _ api.Ask, s api.Sailing, _ api.Answer) {
		ids, edges, e := stock.Promises(s)
		pairs, f := match.Most(len(ids), 4, edges)
		lack, g := match.Lack(len(ids), 4, edges)
		if e != api.OK || f != api.OK || g != api.OK || len(pairs) != len(ids) || len(lack) != 0 {
			t.Errorf("%v: %v, %v", s, pairs, lack)
		}
		one := max(0, len(ids)-1)
		for left := len(ids) + 1; left <= len(ids)+2; left++ { // with more that may have what the last one may
			for _, x := range edges {
				if x.Left == one {
					edges = append(edges, api.Edge{Left: left - 1, Right: x.Right})
				}
			}
			pairs, _ := match.Most(left, 4, edges)
			lack, _ := match.Lack(left, 4, edges)
			if (len(pairs) == left) == (len(lack) > 0) {
				t.Errorf("%d, %v: both %v and %v", left, edges, pairs, lack)
			}
			lacking += min(1, len(lack))
		}
	})
	if lacking < 100 {
		t.Errorf("only %d times one lacked a cabin", lacking)
	}
}

// TestWholeBytes: what is encoded is decoded as it was, and nothing else is.
func TestWholeBytes(t *testing.T) {
	through(t, 11, 20, 40, func(_ api.Sailing, a api.Ask, _ api.Sailing, _ api.Answer) {
		bytes := bytesOf(t, a)
		if b, e := code.Decode(bytes); b != a || e != api.OK {
			t.Errorf("%v is decoded as %v, %d", a, b, e)
		}
		for i := range bytes {
			l := []byte(bytes)
			l[i] ^= 1
			if b, e := code.Decode(string(l)); b == a || e == api.OK && bytesOf(t, b) != string(l) {
				t.Errorf("%q is decoded as %v", l, b)
			}
		}
	})
}

// TestWholeCrash: what was answered is there behind a crash; a request that comes again is answered as it was. The desk crashes now and then, and requests come twice, or late.
func TestWholeCrash(t *testing.T) {
	r := rand.New(rand.NewPCG(12, 13))
	for range 25 {
		first := packet()
		l, s := api.Log{}, first
		for number := range 20 {
			a := drawnAsk(r, s, 1+number)
			if a.Number == 0 {
				continue
			}
			next, want := told(s, a)
			log, answer, e := desk.Step(first, l, bytesOf(t, a))
			if answer != want || e != api.OK || !same(log.Done, append(slices.Clone(l.Done), api.Done{Ask: a, Answer: want})) {
				t.Fatalf("%v, %v: %v, %v, %d, not %v", l, a, log, answer, e, want)
			}
			l, s = log, next
			if r.IntN(3) == 0 {
				safe, e := desk.Crash(l, r.IntN(3))
				if !same(safe, l) || e != api.OK {
					t.Fatalf("what was answered is lost: %v, %d", safe, e)
				}
			}
			d := l.Done[r.IntN(len(l.Done))]
			steps(t, "again", first, l, bytesOf(t, d.Ask), l, d.Answer, api.OK)
			opens(t, "behind it", first, l, s, api.OK)
		}
	}
}
