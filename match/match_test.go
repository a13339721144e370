package match_test

import (
	"math"
	"math/bits"
	"slices"
	"testing"

	"taffrail/api"
	"taffrail/match"
)

// ed: edges, told by their ends.
func ed(ends ...int) []api.Edge {
	var l []api.Edge
	for i := 0; i < len(ends); i += 2 {
		l = append(l, api.Edge{Left: ends[i], Right: ends[i+1]})
	}
	return l
}

// wants: what all calls tell; with an error, nothing else.
func wants(t *testing.T, left, right int, l []api.Edge, want api.Errno) {
	t.Helper()
	if e := match.Check(left, right, l); e != want {
		t.Errorf("Check(%d, %d, %v) = %d, not %d", left, right, few(l), e, want)
	}
	if m, e := match.Most(left, right, l); e != want || want != api.OK && m != nil {
		t.Errorf("Most(%d, %d, %v) = %v, %d, not %d", left, right, few(l), m, e, want)
	}
	if k, e := match.Lack(left, right, l); e != want || want != api.OK && k != nil {
		t.Errorf("Lack(%d, %d, %v) = %v, %d, not %d", left, right, few(l), k, e, want)
	}
}

// few of many edges, to be shown.
func few(l []api.Edge) []api.Edge { return l[:min(len(l), 20)] }

// whole graph: each left one may have each right one.
func whole(left, right int) []api.Edge {
	var l []api.Edge
	for i := range left * right {
		l = append(l, api.Edge{Left: i / right, Right: i % right})
	}
	return l
}

func TestD1Sides(t *testing.T) {
	numbers := []int{math.MinInt, -17, -1, 0, 1, 15, 16, 17, 18, math.MaxInt}
	for _, left := range numbers {
		for _, right := range numbers {
			want := api.OK
			if left < 0 || left > 16 || right < 0 || right > 16 {
				want = api.ErrRange
			}
			wants(t, left, right, nil, want)
			wants(t, left, right, []api.Edge{}, want)
			if want != api.OK {
				wants(t, left, right, ed(0, 0, 0, 0), api.ErrRange)
			}
		}
	}
}

func TestD1Ends(t *testing.T) {
	numbers := []int{math.MinInt, -1, 0, 1, 2, 3, 4, 15, 16, 17, math.MaxInt}
	for _, sides := range [][2]int{{0, 0}, {0, 3}, {3, 0}, {1, 1}, {2, 4}, {4, 2}, {16, 16}} {
		left, right := sides[0], sides[1]
		for _, a := range numbers {
			for _, b := range numbers {
				want := api.ErrRange
				if a >= 0 && a < left && b >= 0 && b < right {
					want = api.OK
				}
				wants(t, left, right, ed(a, b), want)
			}
		}
	}
}

// TestD1EdgeByEdge: the first edge of which something is wrong tells.
func TestD1EdgeByEdge(t *testing.T) {
	for _, c := range []struct {
		l    []api.Edge
		want api.Errno
	}{
		{ed(0, 0, 0, 1, 1, 0, 1, 1), api.OK},
		{ed(1, 1, 1, 0, 0, 1, 0, 0), api.OK},
		{ed(0, 1, 1, 0), api.OK},
		{ed(0, 0, 0, 0), api.ErrTwice},
		{ed(0, 0, 1, 1, 0, 0), api.ErrTwice},
		{ed(0, 1, 1, 0, 1, 0), api.ErrTwice},
		{ed(0, 0, 0, 0, 2, 0), api.ErrTwice},
		{ed(0, 0, 0, 0, 0, -1), api.ErrTwice},
		{ed(2, 0, 0, 0, 0, 0), api.ErrRange},
		{ed(0, 0, 0, 2, 0, 0), api.ErrRange},
		{ed(0, 2, 0, 2), api.ErrRange},
		{ed(0, 0, 1, 1, -1, 0), api.ErrRange},
	} {
		wants(t, 2, 2, c.l, c.want)
	}
	all := whole(16, 16)
	wants(t, 16, 16, all, api.OK)
	for _, x := range all {
		wants(t, 16, 16, append(slices.Clone(all), x), api.ErrTwice)
	}
	wants(t, 16, 16, append(all, ed(16, 0, 0, 0)...), api.ErrRange)
	wants(t, 1, 1, make([]api.Edge, 1<<20), api.ErrTwice)
}

// rightOf each left one: the right ones that an edge leads to, as bits.
func rightOf(left int, l []api.Edge) []uint {
	may := make([]uint, left)
	for _, x := range l {
		may[x.Left] |= 1 << x.Right
	}
	return may
}

// howMany edges a matching may have: of all sets of right ones that some of the left ones can have, the greatest.
func howMany(left int, l []api.Edge) int {
	sets := map[uint]struct{}{0: {}}
	for _, may := range rightOf(left, l) {
		for _, set := range keys(sets) {
			for free := may &^ set; free != 0; free &= free - 1 {
				sets[set|free&-free] = struct{}{}
			}
		}
	}
	most := 0
	for set := range sets {
		most = max(most, bits.OnesCount(set))
	}
	return most
}

func keys(sets map[uint]struct{}) []uint {
	l := make([]uint, 0, len(sets))
	for set := range sets {
		l = append(l, set)
	}
	return l
}

// isMatching: edges of the graph, rising by left, none with a right one of another.
func isMatching(m, l []api.Edge) bool {
	var taken uint
	for i, x := range m {
		if !slices.Contains(l, x) || i > 0 && m[i-1].Left >= x.Left || taken>>x.Right&1 == 1 {
			return false
		}
		taken |= 1 << x.Right
	}
	return true
}

// theyLack: left ones that are there, rising, that have fewer right ones than they are.
func theyLack(left int, k []int, l []api.Edge) bool {
	may := rightOf(left, l)
	var have uint
	for i, x := range k {
		if x < 0 || x >= left || i > 0 && k[i-1] >= x {
			return false
		}
		have |= may[x]
	}
	return bits.OnesCount(have) < len(k)
}

// checkGraph: Most, Lack, and that it is just one of both (D3).
func checkGraph(t *testing.T, left, right int, l []api.Edge) {
	t.Helper()
	m, e := match.Most(left, right, l)
	if most := howMany(left, l); e != api.OK || !isMatching(m, l) || len(m) != most {
		t.Fatalf("Most(%d, %d, %v) = %v, %d; there may be %d", left, right, l, m, e, most)
	}
	k, e := match.Lack(left, right, l)
	if all := len(m) == left; e != api.OK || all != (len(k) == 0) || !all && !theyLack(left, k, l) {
		t.Fatalf("Lack(%d, %d, %v) = %v, %d; matched are %v", left, right, l, k, e, m)
	}
}

// graphOf the edges whose bits are set.
func graphOf(left, right, which int) []api.Edge {
	var l []api.Edge
	for i, x := range whole(left, right) {
		if which>>i&1 == 1 {
			l = append(l, x)
		}
	}
	return l
}

// TestD2AllGraphs: all whose sides are up to four.
func TestD2AllGraphs(t *testing.T) {
	for left := 0; left <= 4; left++ {
		for right := 0; right <= 4; right++ {
			for which := range 1 << (left * right) {
				checkGraph(t, left, right, graphOf(left, right, which))
			}
		}
	}
}

// draw: numbers that are the same each time.
type draw uint64

func (d *draw) n(n int) int {
	*d = *d*6364136223846793005 + 1442695040888963407
	return int(uint64(*d) >> 33 % uint64(n))
}

// some edges of a whole graph, of a hundred so many, in any order.
func some(d *draw, left, right, part int) []api.Edge {
	var l []api.Edge
	for _, x := range whole(left, right) {
		if d.n(100) < part {
			at := d.n(len(l) + 1)
			l = slices.Insert(l, at, x)
		}
	}
	return l
}

func TestD2DrawnGraphs(t *testing.T) {
	d := draw(7)
	for range 4000 {
		left, right := d.n(11), d.n(11)
		checkGraph(t, left, right, some(&d, left, right, 5+d.n(60)))
	}
	for range 30 {
		checkGraph(t, 16, 16, some(&d, 16, 16, 8))
	}
}

// TestD2Long: each of the left ones but the last has its own right one and the next, and the last wants the first: all must move on, or all lack.
func TestD2Long(t *testing.T) {
	for n := 1; n <= 16; n++ {
		var l []api.Edge
		for i := range n - 1 {
			l = append(l, api.Edge{Left: i, Right: i}, api.Edge{Left: i, Right: i + 1})
		}
		l = append(l, api.Edge{Left: n - 1, Right: 0})
		wantsLong(t, n, n, l, n)
		slices.Reverse(l)
		wantsLong(t, n, n, l, n)
		// Without the last right one there is one too few, and all of them lack it.
		less := slices.DeleteFunc(slices.Clone(l), func(x api.Edge) bool { return x.Right == n-1 })
		wantsLong(t, n, n-1, less, n-1)
	}
}

// wantsLong: of those graphs, of which no fewer than all lack.
func wantsLong(t *testing.T, left, right int, l []api.Edge, most int) {
	t.Helper()
	m, e := match.Most(left, right, l)
	if e != api.OK || len(m) != most || !isMatching(m, l) {
		t.Errorf("Most(%d, %d, %v) = %v, %d", left, right, l, m, e)
	}
	k, e := match.Lack(left, right, l)
	if e != api.OK || (len(k) == 0) != (most == left) || len(k) > 0 && (len(k) != left || !theyLack(left, k, l)) {
		t.Errorf("Lack(%d, %d, %v) = %v, %d", left, right, l, k, e)
	}
}

func TestD2Edges(t *testing.T) {
	for left := 0; left <= 16; left++ {
		for right := 0; right <= 16; right++ {
			for _, l := range [][]api.Edge{nil, whole(left, right)} {
				m, e := match.Most(left, right, l)
				k, f := match.Lack(left, right, l)
				most := 0
				if l != nil {
					most = min(left, right)
				}
				if e != api.OK || f != api.OK || len(m) != most || !isMatching(m, l) {
					t.Fatalf("Most(%d, %d, all or none) = %v, %d", left, right, m, e)
				}
				if (len(k) == 0) != (most == left) || len(k) > 0 && !theyLack(left, k, l) {
					t.Fatalf("Lack(%d, %d, all or none) = %v, %d", left, right, k, f)
				}
			}
		}
	}
}

// TestExample of the document: an inside cabin, an outside cabin that is sold, a suite; two promises of inside can be kept, and a third can't.
func TestExample(t *testing.T) {
	l := ed(0, 0, 0, 2, 1, 0, 1, 2)
	checkGraph(t, 2, 3, l)
	if k, e := match.Lack(2, 3, l); len(k) != 0 || e != api.OK {
		t.Errorf("two promises: %v, %d", k, e)
	}
	l = append(l, ed(2, 0, 2, 2)...)
	checkGraph(t, 3, 3, l)
	if k, e := match.Lack(3, 3, l); !slices.Equal(k, []int{0, 1, 2}) || e != api.OK {
		t.Errorf("three promises: %v, %d", k, e)
	}
}

// TestP2: what is handed in, with the room behind it, stays as it was; an answer is new memory.
func TestP2(t *testing.T) {
	all := ed(2, 1, 0, 0, 1, 0, 0, 1, 77, 78, 79, 80)
	was := slices.Clone(all)
	l := all[:4]
	match.Check(3, 2, l)
	m, _ := match.Most(3, 2, l)
	k, _ := match.Lack(3, 2, l)
	if len(m) != 2 || len(k) == 0 {
		t.Fatalf("%v and %v", m, k)
	}
	wasM, wasK := slices.Clone(m), slices.Clone(k)
	for i := range l {
		l[i] = api.Edge{Left: 9, Right: 9}
	}
	if !slices.Equal(m, wasM) || !slices.Equal(k, wasK) || !slices.Equal(all[4:], was[4:]) {
		t.Errorf("a later change is seen: %v, %v, %v", m, k, all)
	}
	copy(l, was)
	for i := range m[:cap(m)] {
		m[:cap(m)][i] = api.Edge{Left: 9, Right: 9}
	}
	for i := range k[:cap(k)] {
		k[:cap(k)][i] = 9
	}
	if !slices.Equal(all, was) {
		t.Errorf("%v was handed in, and is %v", was, all)
	}
}

// TestP3: what is free is the same each time, whatever was asked between.
func TestP3(t *testing.T) {
	d := draw(11)
	for range 40 {
		l := some(&d, 12, 11, 20)
		m, _ := match.Most(12, 11, l)
		k, _ := match.Lack(12, 11, l)
		for range 20 {
			match.Most(3, 3, whole(3, 3))
			match.Lack(3, 3, ed(5, 5))
			if again, e := match.Most(12, 11, slices.Clone(l)); e != api.OK || !slices.Equal(again, m) {
				t.Fatalf("Most of %v: %v, then %v", l, m, again)
			}
			if again, e := match.Lack(12, 11, slices.Clone(l)); e != api.OK || !slices.Equal(again, k) {
				t.Fatalf("Lack of %v: %v, then %v", l, k, again)
			}
		}
	}
}
