package ship_test

import (
	"math"
	"reflect"
	"slices"
	"testing"

	"taffrail/api"
	"taffrail/ship"
)

// shipOf categories whose Higher are the bits of a number each.
func shipOf(higher []int) api.Ship {
	s := api.Ship{Legs: 1, Souls: 1, Cabins: []api.Cabin{{Name: "A", Berths: 1}}}
	for i, bits := range higher {
		c := api.Category{Name: string(rune('A' + i))}
		for h := range higher {
			if bits>>h&1 == 1 {
				c.Higher = append(c.Higher, h)
			}
		}
		s.Categories = append(s.Categories, c)
	}
	return s
}

// climbs: does one get from b up to a, by at least one step? Told by the ways themselves, none of which needs more steps than there are categories.
func climbs(s api.Ship, a, b, steps int) bool {
	if steps == 0 {
		return false
	}
	return slices.ContainsFunc(s.Categories[b].Higher, func(h int) bool { return h == a || climbs(s, a, h, steps-1) })
}

// eachOrder goes through all orders of numbers below n, the one with the least numbers ahead first.
func eachOrder(n int, ahead []int, is func([]int) bool) []int {
	if len(ahead) == n {
		if is(ahead) {
			return ahead
		}
		return nil
	}
	for i := range n {
		if slices.Contains(ahead, i) {
			continue
		}
		if l := eachOrder(n, append(slices.Clone(ahead), i), is); l != nil {
			return l
		}
	}
	return nil
}

// checkGraph holds Check, Serves and Order of a ship against the ways from category to category.
func checkGraph(t *testing.T, s api.Ship) {
	t.Helper()
	n := len(s.Categories)
	for i := range n {
		if climbs(s, i, i, n) {
			wants(t, "a circle", s, api.ErrState)
			return
		}
	}
	for a := range n {
		for b := range n {
			want := a == b || climbs(s, a, b, n)
			if ok, e := ship.Serves(s, a, b); ok != want || e != api.OK {
				t.Fatalf("Serves(%v, %d, %d) = %v, %d, not %v", s, a, b, ok, e, want)
			}
		}
	}
	// The first of all orders that are right is the one in which always the least one stands next.
	want := eachOrder(n, nil, func(l []int) bool {
		for i, c := range l {
			for _, behind := range l[i+1:] {
				if climbs(s, behind, c, n) {
					return false
				}
			}
		}
		return true
	})
	if l, e := ship.Order(s); e != api.OK || !slices.Equal(l, want) {
		t.Fatalf("Order(%v) = %v, %d, not %v", s, l, e, want)
	}
}

// fourOf twelve bits: Higher of four categories, none of which stands in its own.
func fourOf(all int) []int {
	higher := make([]int, 4)
	for i := range higher {
		three := all >> (i * 3) & 7
		higher[i] = three&(1<<i-1) | three>>i<<(i+1)
	}
	return higher
}

// TestB2AllGraphs: all of up to three categories; all of four, of which none stands in its own Higher.
func TestB2AllGraphs(t *testing.T) {
	for n := 1; n <= 3; n++ {
		for all := range 1 << (n * n) {
			higher := make([]int, n)
			for i := range higher {
				higher[i] = all >> (i * n) & (1<<n - 1)
			}
			checkGraph(t, shipOf(higher))
		}
	}
	for all := range 1 << 12 {
		checkGraph(t, shipOf(fourOf(all)))
	}
}

// TestB2FiveCategories: graphs without a circle, by one order of them, and some with one.
func TestB2FiveCategories(t *testing.T) {
	order := []int{3, 0, 4, 2, 1}
	for all := range 1 << 10 {
		higher := make([]int, 5)
		bit := 0
		for i, c := range order {
			for _, h := range order[:i] {
				higher[c] |= all >> bit & 1 << h
				bit++
			}
		}
		checkGraph(t, shipOf(higher))
		higher[3] |= 1 << 1
		checkGraph(t, shipOf(higher))
	}
}

func TestB2Order(t *testing.T) {
	for _, c := range []struct{ higher, want []int }{
		{[]int{0}, []int{0}},
		{[]int{0, 0, 0, 0, 0}, []int{0, 1, 2, 3, 4}},
		{[]int{1 << 1, 1 << 2, 1 << 3, 1 << 4, 0}, []int{4, 3, 2, 1, 0}},
		{[]int{0, 1, 2, 4, 8}, []int{0, 1, 2, 3, 4}},
		{[]int{1<<1 | 1<<2, 1 << 3, 1 << 3, 0}, []int{3, 1, 2, 0}},
		{[]int{0, 1 << 3, 1 << 3, 0}, []int{0, 3, 1, 2}},
		{[]int{1 << 4, 0, 1 << 1, 0, 1 << 3}, []int{1, 2, 3, 4, 0}},
	} {
		if l, e := ship.Order(shipOf(c.higher)); e != api.OK || !slices.Equal(l, c.want) {
			t.Errorf("Order of %v = %v, %d, not %v", c.higher, l, e, c.want)
		}
	}
}

func TestB2ServesErrors(t *testing.T) {
	s := liner()
	for _, n := range []int{math.MinInt, -1, 4, 5, math.MaxInt} {
		for _, c := range [][2]int{{n, 0}, {0, n}, {n, n}} {
			if ok, e := ship.Serves(s, c[0], c[1]); ok || e != api.ErrRange {
				t.Errorf("Serves(.., %d, %d) = %v, %d", c[0], c[1], ok, e)
			}
		}
	}
}

// TestB3: of all ships of four categories that are right.
func TestB3(t *testing.T) {
	right := 0
	for all := range 1 << 12 {
		s := shipOf(fourOf(all))
		if ship.Check(s) != api.OK {
			continue
		}
		right++
		var serves [4][4]bool
		for i := range 16 {
			serves[i/4][i%4], _ = ship.Serves(s, i/4, i%4)
		}
		checkB3(t, s, serves)
	}
	if right != 543 {
		t.Errorf("%d graphs of four have no circle, not 543", right)
	}
}

func checkB3(t *testing.T, s api.Ship, serves [4][4]bool) {
	t.Helper()
	for i := range 64 {
		a, b, c := i/16, i/4%4, i%4
		if a != b && serves[a][b] && serves[b][a] {
			t.Fatalf("%v: %d and %d serve one another", s, a, b)
		}
		if serves[a][b] && serves[b][c] && !serves[a][c] {
			t.Fatalf("%v: %d serves %d, which serves %d", s, a, b, c)
		}
	}
}

// roomy is a liner behind each of whose lists there is room, in which something lies.
func roomy() api.Ship {
	s := liner()
	s.Categories = append(s.Categories, api.Category{Name: "ROOM", Higher: []int{0}})[:4]
	s.Cabins = append(s.Cabins, api.Cabin{Name: "ROOM"})[:4]
	for i := range s.Categories {
		h := s.Categories[i].Higher
		s.Categories[i].Higher = append(slices.Clone(h), 77, 78)[:len(h)]
	}
	return s
}

// unfold a ship so that the room behind its lists is seen.
func unfold(s api.Ship) api.Ship {
	s.Categories = slices.Clone(s.Categories[:5])
	s.Cabins = slices.Clone(s.Cabins[:5])
	for i := range s.Categories {
		h := s.Categories[i].Higher
		s.Categories[i].Higher = slices.Clone(h[:min(cap(h), len(h)+2)])
	}
	return s
}

func TestP2(t *testing.T) {
	s := roomy()
	before := unfold(s)
	if ship.Check(s) != api.OK {
		t.Fatal("the ship is right")
	}
	ship.Serves(s, 3, 0)
	l, _ := ship.Order(s)
	if !reflect.DeepEqual(unfold(s), before) {
		t.Errorf("the ship is %v, and was %v", unfold(s), before)
	}
	s.Categories[0], s.Categories[3] = s.Categories[3], s.Categories[0]
	if !slices.Equal(l, []int{3, 1, 2, 0}) {
		t.Errorf("a later change of the ship is seen: %v", l)
	}
	s.Categories[0], s.Categories[3] = s.Categories[3], s.Categories[0]
	for i := range l[:cap(l)] {
		l[:cap(l)][i] = 99
	}
	if again, e := ship.Order(s); e != api.OK || !slices.Equal(again, []int{3, 1, 2, 0}) || !reflect.DeepEqual(unfold(s), before) {
		t.Errorf("a change of the answer is seen: %v, %d", again, e)
	}
}

// TestP3: the same each time, whatever was asked between; the order of a Higher, and what a name is, tell nothing.
func TestP3(t *testing.T) {
	wrong := liner()
	wrong.Categories[3].Higher = []int{0}
	other := liner()
	other.Categories[0] = api.Category{Name: "ZZ", Higher: []int{2, 1}}
	other.Categories[3].Higher = []int{}
	for range 50 {
		wants(t, "a circle", wrong, api.ErrState)
		for _, s := range []api.Ship{liner(), other} {
			if l, e := ship.Order(s); e != api.OK || !slices.Equal(l, []int{3, 1, 2, 0}) {
				t.Fatalf("Order: %v, %d", l, e)
			}
			if ok, e := ship.Serves(s, 3, 0); !ok || e != api.OK {
				t.Fatalf("Serves: %v, %d", ok, e)
			}
		}
	}
}
