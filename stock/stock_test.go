package stock_test

import (
	"math"
	"slices"
	"testing"

	"taffrail/api"
	"taffrail/stock"
)

// edge list from pairs.
func pairs(l ...[2]int) []api.Edge {
	var out []api.Edge
	for _, p := range l {
		out = append(out, api.Edge{Left: p[0], Right: p[1]})
	}
	return out
}

func TestH2Promises(t *testing.T) {
	for _, c := range []struct {
		name  string
		s     api.Sailing
		ids   []int
		edges []api.Edge
	}{
		{"none", sailing(), nil, nil},
		{"named alone", sailing(named(1, 0, 1, 0, 4)), nil, nil},
		{"closed", closed(in(1, promise(1, 0, 1)), named(2, 0, 1, 0, 4)), nil, nil},
		{"any", sailing(promise(5, 0, 1)), []int{5}, pairs([2]int{0, 0}, [2]int{0, 1}, [2]int{0, 2}, [2]int{0, 3}, [2]int{0, 4})},
		{"by category", sailing(promise(5, 1, 1), promise(7, 2, 1), option(promise(9, 3, 1), 3)), []int{5, 7, 9}, pairs([2]int{0, 2}, [2]int{0, 4}, [2]int{1, 3}, [2]int{1, 4}, [2]int{2, 4})},
		{"by guests", sailing(promise(5, 0, 3), promise(6, 0, 4)), []int{5, 6}, pairs([2]int{0, 1}, [2]int{0, 2}, [2]int{0, 4}, [2]int{1, 1}, [2]int{1, 4})},
		{"by level", sailing(level(promise(5, 0, 3)), level(promise(6, 0, 4))), []int{5, 6}, pairs([2]int{0, 2}, [2]int{0, 4}, [2]int{1, 4})},
		{"cabins that are sold", sailing(named(1, 1, 1, 0, 1), promise(5, 0, 1), option(named(6, 4, 1, 3, 4), 7)), []int{5}, pairs([2]int{0, 0}, [2]int{0, 2}, [2]int{0, 3})},
		{"those that are gone", sailing(gone(named(1, 1, 1, 0, 1)), gone(promise(2, 0, 1)), promise(5, 0, 3), gone(in(4, promise(6, 0, 1)))), []int{5}, pairs([2]int{0, 1}, [2]int{0, 2}, [2]int{0, 4})},
	} {
		ids, edges, e := stock.Promises(c.s)
		if !slices.Equal(ids, c.ids) || !slices.Equal(edges, c.edges) || e != api.OK {
			t.Errorf("%s: Promises = %v, %v, %d, not %v, %v", c.name, ids, edges, e, c.ids, c.edges)
		}
	}
}

func TestH2Free(t *testing.T) {
	for _, c := range []struct {
		name  string
		s     api.Sailing
		cabin int
		want  []api.Span
		e     api.Errno
	}{
		{"all", sailing(), 0, []api.Span{{From: 0, To: 4}}, api.OK},
		{"another cabin", sailing(named(1, 1, 1, 0, 4)), 4, []api.Span{{From: 0, To: 4}}, api.OK},
		{"none", sailing(named(1, 1, 1, 0, 4)), 1, nil, api.OK},
		{"none, side by side", sailing(named(1, 1, 1, 2, 4), named(2, 1, 1, 0, 2)), 1, nil, api.OK},
		{"between", sailing(named(1, 1, 1, 3, 4), named(2, 1, 1, 0, 1)), 1, []api.Span{{From: 1, To: 3}}, api.OK},
		{"around", sailing(option(named(1, 1, 1, 1, 2), 9)), 1, []api.Span{{From: 0, To: 1}, {From: 2, To: 4}}, api.OK},
		{"gone", sailing(gone(named(1, 1, 1, 1, 2)), named(2, 1, 1, 0, 1)), 1, []api.Span{{From: 1, To: 4}}, api.OK},
		{"promised", sailing(promise(1, 3, 1)), 4, []api.Span{{From: 0, To: 4}}, api.OK},
		{"kept", closed(in(4, promise(1, 3, 1))), 4, nil, api.OK},
		{"below 0", sailing(), -1, nil, api.ErrRange},
		{"no such cabin", sailing(), 5, nil, api.ErrRange},
		{"least", sailing(), math.MinInt, nil, api.ErrRange},
		{"greatest", sailing(), math.MaxInt, nil, api.ErrRange},
	} {
		if l, e := stock.Free(c.s, c.cabin); !slices.Equal(l, c.want) || e != c.e {
			t.Errorf("%s: Free = %v, %d, not %v, %d", c.name, l, e, c.want, c.e)
		}
	}
}

func TestH3Could(t *testing.T) {
	full := sailing()
	for i := range 16 {
		full.Bookings = append(full.Bookings, gone(promise(1+i, 0, 1)))
	}
	crowded := busy()
	crowded.Ship.Souls = 7
	for _, c := range []struct {
		name string
		s    api.Sailing
		b    api.Booking
		want bool
		e    api.Errno
	}{
		{"first", sailing(), named(1, 0, 1, 0, 1), true, api.OK},
		{"ahead of all", busy(), named(9, 4, 1, 0, 1), true, api.OK},
		{"behind all", busy(), named(99, 4, 1, 0, 1), true, api.OK},
		{"between", sailing(named(10, 0, 1, 0, 1), named(20, 1, 1, 0, 1)), named(15, 2, 1, 0, 1), true, api.OK},
		{"meeting", busy(), named(99, 0, 1, 1, 2), false, api.OK},
		{"meeting one that is gone alone", busy(), named(99, 4, 1, 0, 4), true, api.OK},
		{"gone, meeting", busy(), gone(named(99, 0, 1, 1, 2)), true, api.OK},
		{"souls", crowded, named(99, 4, 3, 0, 1), false, api.OK},
		{"just as many souls", crowded, named(99, 4, 1, 3, 4), true, api.OK},
		{"a soul more", crowded, named(99, 4, 2, 3, 4), false, api.OK},
		{"a soul more that is gone", crowded, gone(named(99, 4, 2, 3, 4)), true, api.OK},
		{"third promise", busy(), promise(99, 3, 1), true, api.OK},
		{"a cabin that keeps a promise", sailing(promise(1, 3, 1)), named(2, 4, 1, 0, 1), false, api.OK},
		{"a cabin that keeps none", sailing(promise(1, 3, 1)), named(2, 3, 1, 0, 1), true, api.OK},
		{"sixth promise", sailing(promises(5, 0)...), promise(1, 0, 1), false, api.OK},
		{"kept promise", sailing(), in(4, promise(1, 0, 1)), false, api.OK},
		{"kept promise that is gone", sailing(), gone(in(4, promise(1, 0, 1))), true, api.OK},
		{"kept promise, closed", closed(), in(4, promise(1, 0, 1)), true, api.OK},
		{"open promise, closed", closed(), promise(1, 0, 1), false, api.OK},
		{"named, closed", closed(in(4, promise(1, 0, 1))), named(2, 3, 1, 0, 1), true, api.OK},
		{"named where a promise is kept", closed(in(4, promise(1, 0, 1))), named(2, 4, 1, 0, 1), false, api.OK},
		{"one too many", full, gone(promise(99, 0, 1)), false, api.OK},
		{"twice", busy(), named(10, 4, 1, 0, 1), false, api.ErrTwice},
		{"twice of one that is gone", busy(), named(16, 4, 1, 0, 1), false, api.ErrTwice},
		{"twice, gone itself", busy(), gone(named(12, 4, 1, 0, 1)), false, api.ErrTwice},
		{"twice, of many", full, gone(promise(16, 0, 1)), false, api.ErrTwice},
		{"twice, meeting", busy(), named(10, 0, 1, 0, 4), false, api.ErrTwice},
		{"nothing", busy(), api.Booking{}, false, api.ErrKind},
		{"wrong ahead of twice", busy(), named(10, 9, 1, 0, 1), false, api.ErrRange},
		{"wrong of many", full, named(99, 0, 3, 0, 1), false, api.ErrState},
	} {
		if ok, e := stock.Could(c.s, c.b); ok != c.want || e != c.e {
			t.Errorf("%s: Could = %v, %d, not %v, %d", c.name, ok, e, c.want, c.e)
		}
	}
}

// TestExample is that of the document: three legs; an inside cabin, an outside cabin that is sold from port 1 on, a suite.
func TestExample(t *testing.T) {
	whole := func(id int) api.Booking {
		b := promise(id, 0, 1)
		b.Span.To = 3
		return b
	}
	s := api.Sailing{
		Ship: api.Ship{Legs: 3, Souls: 9,
			Categories: []api.Category{{Name: "IN", Higher: []int{1}}, {Name: "OUT", Higher: []int{2}}, {Name: "SUITE"}},
			Cabins:     []api.Cabin{{Name: "I", Berths: 2}, {Name: "O", Category: 1, Berths: 2}, {Name: "S", Category: 2, Berths: 2}}},
		Fares:    api.Fares{Leg: [][]int{{1, 1, 1}, {2, 2, 2}, {3, 3, 3}}},
		Leaves:   9,
		Bookings: []api.Booking{named(1, 1, 2, 1, 3)},
	}
	for id := 2; id <= 3; id++ {
		if ok, e := stock.Could(s, whole(id)); !ok || e != api.OK {
			t.Fatalf("Could of %d = %v, %d", id, ok, e)
		}
		s.Bookings = append(s.Bookings, whole(id))
	}
	ids, edges, e := stock.Promises(s)
	if !slices.Equal(ids, []int{2, 3}) || !slices.Equal(edges, pairs([2]int{0, 0}, [2]int{0, 2}, [2]int{1, 0}, [2]int{1, 2})) || e != api.OK {
		t.Errorf("Promises = %v, %v, %d", ids, edges, e)
	}
	if ok, e := stock.Could(s, whole(4)); ok || e != api.OK {
		t.Errorf("Could of a third = %v, %d", ok, e)
	}
	s.Bookings = append(s.Bookings, whole(4))
	wants(t, "a third", s, api.ErrFull)
}
