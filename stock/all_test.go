package stock_test

import (
	"reflect"
	"slices"
	"testing"

	"taffrail/api"
	"taffrail/match"
	"taffrail/stock"
)

// draw: numbers, the same each time.
type draw uint64

func (d *draw) n(n int) int {
	*d = *d*6364136223846793005 + 1442695040888963407
	return int(uint64(*d) >> 33 % uint64(n))
}

// served by category of who is promised: which categories of the liner serve it.
func served() [4][4]bool {
	return [4][4]bool{{true, true, true, true}, {false, true, false, true}, {false, false, true, true}, {false, false, false, true}}
}

func live(b api.Booking) bool { return b.State != api.StateGone }

// hadOn: how many live bookings have a cabin on a leg.
func hadOn(s api.Sailing, cabin, leg int) int {
	n := 0
	for _, b := range s.Bookings {
		if live(b) && b.Cabin == cabin && b.Span.From <= leg && leg < b.Span.To {
			n++
		}
	}
	return n
}

// wantedEdges of the liner's open promises, by the words of the document.
func wantedEdges(s api.Sailing) ([]int, []api.Edge) {
	var ids []int
	var edges []api.Edge
	for _, b := range s.Bookings {
		if !live(b) || b.Kind != api.KindPromise || b.Cabin != -1 {
			continue
		}
		for i, c := range s.Ship.Cabins {
			had := hadOn(s, i, 0) + hadOn(s, i, 1) + hadOn(s, i, 2) + hadOn(s, i, 3)
			if served()[b.Category][c.Category] && c.Berths >= b.Guests && (c.Level || !b.Level) && had == 0 {
				edges = append(edges, api.Edge{Left: len(ids), Right: i})
			}
		}
		ids = append(ids, b.Id)
	}
	return ids, edges
}

// kept: can all left ones from one on be matched without some right ones? All ways are gone through.
func kept(left, from int, edges []api.Edge, without map[int]int) bool {
	if from == left {
		return true
	}
	for _, x := range edges {
		if x.Left != from || without[x.Right] > 0 {
			continue
		}
		without[x.Right]++
		ok := kept(left, from+1, edges, without)
		without[x.Right]--
		if ok {
			return true
		}
	}
	return false
}

// wanted: what Check says of a sailing of the liner with bookings that are right and rise.
func wanted(s api.Sailing) api.Errno {
	for _, b := range s.Bookings {
		if live(b) && b.Kind == api.KindPromise && (b.Cabin == -1) == s.Closed {
			return api.ErrState
		}
	}
	for leg := range 4 {
		for cabin := range s.Ship.Cabins {
			if hadOn(s, cabin, leg) > 1 {
				return api.ErrTwice
			}
		}
	}
	for leg := range 4 {
		on := 0
		for _, b := range s.Bookings {
			if live(b) && b.Span.From <= leg && leg < b.Span.To {
				on += b.Guests
			}
		}
		if on > s.Ship.Souls {
			return api.ErrMany
		}
	}
	ids, edges := wantedEdges(s)
	if !kept(len(ids), 0, edges, map[int]int{}) {
		return api.ErrFull
	}
	return api.OK
}

// some booking that is right, mostly one that an open sailing may have, or a closed one.
func some(d *draw, id int, closed bool) api.Booking {
	c := liner().Cabins
	b := named(id, d.n(len(c)), 1, d.n(4), 4)
	b.Span.To = b.Span.From + 1 + d.n(4-b.Span.From)
	b.Guests = 1 + d.n(c[b.Cabin].Berths)
	b.Level = c[b.Cabin].Level && d.n(2) == 0
	if d.n(2) == 0 {
		b.Kind, b.Span, b.Category = api.KindPromise, api.Span{To: 4}, d.n(1+c[b.Cabin].Category)
		if !served()[b.Category][c[b.Cabin].Category] {
			b.Category = 0
		}
		if closed == (d.n(20) == 0) {
			b.Cabin = -1
		}
	}
	b.State = 1 + d.n(3)
	if b.State == api.StateOption {
		b.Until = d.n(9)
	}
	return b
}

// someSailing of the liner, with bookings of even Ids.
func someSailing(d *draw) api.Sailing {
	s := sailing()
	s.Closed = d.n(4) == 0
	s.Ship.Souls = 2 + d.n(14)
	for i := range d.n(9) {
		s.Bookings = append(s.Bookings, some(d, 2+2*i, s.Closed))
	}
	return s
}

// wantsFree: spans of a cabin's legs that nobody has, as far as they go.
func wantsFree(t *testing.T, s api.Sailing, cabin int) {
	t.Helper()
	var want []api.Span
	for leg := range 4 {
		if hadOn(s, cabin, leg) > 0 {
			continue
		}
		if n := len(want); n > 0 && want[n-1].To == leg {
			want[n-1].To++
		} else {
			want = append(want, api.Span{From: leg, To: leg + 1})
		}
	}
	if l, e := stock.Free(s, cabin); !slices.Equal(l, want) || e != api.OK {
		t.Fatalf("%v: Free(%d) = %v, %d, not %v", s.Bookings, cabin, l, e, want)
	}
}

// wantsPromises: as the document says; and H4: each of them can be kept.
func wantsPromises(t *testing.T, s api.Sailing) {
	t.Helper()
	ids, edges, e := stock.Promises(s)
	want, may := wantedEdges(s)
	if !slices.Equal(ids, want) || !slices.Equal(edges, may) || e != api.OK {
		t.Fatalf("%v: Promises = %v, %v, %d, not %v, %v", s.Bookings, ids, edges, e, want, may)
	}
	if most, e := match.Most(len(ids), len(s.Ship.Cabins), edges); len(most) != len(ids) || e != api.OK {
		t.Fatalf("%v: %v of %v are kept, %d", s.Bookings, most, ids, e)
	}
}

// wantsCould: just if Check says so of the sailing that has it.
func wantsCould(t *testing.T, s api.Sailing, b api.Booking) bool {
	t.Helper()
	more := s
	more.Bookings = append(slices.Clone(s.Bookings), b)
	slices.SortFunc(more.Bookings, func(a, b api.Booking) int { return a.Id - b.Id })
	want := wanted(more) == api.OK
	if ok, e := stock.Could(s, b); ok != want || e != api.OK {
		t.Fatalf("%v: Could(%v) = %v, %d, not %v", s.Bookings, b, ok, e, want)
	}
	return want
}

// TestHSome: some thousand sailings of bookings that are right.
func TestHSome(t *testing.T) {
	d := new(draw)
	told := map[api.Errno]int{}
	could, not := 0, 0
	for range 20000 {
		s := someSailing(d)
		want := wanted(s)
		told[want]++
		wants(t, "some", s, want)
		if want != api.OK {
			continue
		}
		wantsPromises(t, s)
		for cabin := range s.Ship.Cabins {
			wantsFree(t, s, cabin)
		}
		if wantsCould(t, s, some(d, 1+2*d.n(9), s.Closed)) {
			could++
		} else {
			not++
		}
	}
	for _, e := range []api.Errno{api.OK, api.ErrState, api.ErrTwice, api.ErrMany, api.ErrFull} {
		if told[e] < 300 {
			t.Errorf("%d was told %d times alone", e, told[e])
		}
	}
	if could < 300 || not < 300 {
		t.Errorf("%d could be there, %d not", could, not)
	}
}

// spare: a sailing all of whose lists have room behind them, with something there.
func spare() api.Sailing {
	s := busy()
	s.Bookings[0].Folio = []api.Entry{{Day: 1, Kind: 1, Amount: 5}, {Day: 77}}
	s.Bookings = append(s.Bookings, api.Booking{Id: 77}, api.Booking{Id: 78})
	s.Ship.Categories[0].Higher = []int{1, 2, 77}
	s.Ship.Categories = append(s.Ship.Categories, api.Category{Name: "77"})
	s.Ship.Cabins = append(s.Ship.Cabins, api.Cabin{Name: "77"})
	s.Fares.Leg[0] = append(s.Fares.Leg[0], 77)
	s.Fares.Leg = append(s.Fares.Leg, []int{77})
	s.Fares.Bands = append(s.Fares.Bands, api.Band{Days: 77})
	return s
}

// front of a spare sailing: what is right of it, with the rest in the room behind.
func front(s api.Sailing) api.Sailing {
	s.Bookings = slices.Clone(s.Bookings)[:len(s.Bookings)-2]
	s.Bookings[0].Folio = s.Bookings[0].Folio[:1]
	s.Ship.Categories = slices.Clone(s.Ship.Categories)[:4]
	s.Ship.Categories[0].Higher = s.Ship.Categories[0].Higher[:2]
	s.Ship.Cabins = s.Ship.Cabins[:5]
	s.Fares.Leg = slices.Clone(s.Fares.Leg)[:4]
	s.Fares.Leg[0] = s.Fares.Leg[0][:4]
	s.Fares.Bands = s.Fares.Bands[:3]
	return s
}

// TestP2: what is handed in, with the room behind it, stays as it was; an answer is new memory.
func TestP2(t *testing.T) {
	all := spare()
	s := front(all)
	n := len(s.Bookings)
	more := named(9, 4, 1, 0, 1)
	more.Folio = []api.Entry{{Day: 1, Kind: 1}, {Day: 77}}[:1]
	if e := stock.Check(s); e != api.OK {
		t.Fatalf("Check: %d", e)
	}
	ids, edges, _ := stock.Promises(s)
	free, _ := stock.Free(s, 1)
	ok, e := stock.Could(s, more)
	if len(ids) == 0 || len(edges) == 0 || len(free) == 0 || !ok || e != api.OK {
		t.Fatalf("%v, %v, %v; %v, %d", ids, edges, free, ok, e)
	}
	same := func() bool {
		return reflect.DeepEqual(all, spare()) && reflect.DeepEqual(s, front(spare())) && s.Bookings[:n+2][n].Id == 77 && s.Bookings[:n+2][n+1].Id == 78 && s.Ship.Categories[:5][4].Name == "77" && s.Fares.Leg[:5][4][0] == 77 && more.Folio[:2][1].Day == 77
	}
	if !same() {
		t.Errorf("what was handed in is %v, and %v", all, s)
	}
	was := []any{slices.Clone(ids), slices.Clone(edges), slices.Clone(free)}
	s.Bookings[2].Id, s.Bookings[3].Category, s.Ship.Cabins[1].Berths = 1, 3, 1
	if !reflect.DeepEqual(was, []any{ids, edges, free}) {
		t.Errorf("a later change is seen: %v, %v, %v", ids, edges, free)
	}
	s.Bookings[2].Id, s.Bookings[3].Category, s.Ship.Cabins[1].Berths = 12, 1, 4
	for i := range ids[:cap(ids)] {
		ids[:cap(ids)][i] = 99
	}
	for i := range edges[:cap(edges)] {
		edges[:cap(edges)][i] = api.Edge{Left: 99, Right: 99}
	}
	for i := range free[:cap(free)] {
		free[:cap(free)][i] = api.Span{From: 99, To: 99}
	}
	if !same() {
		t.Errorf("an answer shares memory: %v, %v", all, s)
	}
}

// TestP3: the same each time, whatever was asked between.
func TestP3(t *testing.T) {
	for range 50 {
		ids, edges, e := stock.Promises(busy())
		if !slices.Equal(ids, []int{12, 13}) || !slices.Equal(edges, pairs([2]int{0, 1}, [2]int{0, 2}, [2]int{0, 3}, [2]int{0, 4}, [2]int{1, 2}, [2]int{1, 4})) || e != api.OK {
			t.Fatalf("Promises: %v, %v, %d", ids, edges, e)
		}
		if ok, e := stock.Could(busy(), named(99, 0, 1, 0, 1)); ok || e != api.OK {
			t.Fatalf("Could: %v, %d", ok, e)
		}
		if l, e := stock.Free(busy(), 4); !slices.Equal(l, []api.Span{{From: 0, To: 4}}) || e != api.OK {
			t.Fatalf("Free: %v, %d", l, e)
		}
		if e := stock.Check(sailing(promises(6, 0)...)); e != api.ErrFull {
			t.Fatalf("Check: %d", e)
		}
	}
}
