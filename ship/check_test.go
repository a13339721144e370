package ship_test

import (
	"math"
	"strings"
	"testing"

	"taffrail/api"
	"taffrail/ship"
)

// liner is a ship that is right; each call makes it anew, so that a test may spoil it.
func liner() api.Ship {
	return api.Ship{
		Legs:  4,
		Souls: 14,
		Categories: []api.Category{
			{Name: "IN", Higher: []int{1, 2}},
			{Name: "OUT", Higher: []int{3}},
			{Name: "BALC", Higher: []int{3}},
			{Name: "SUITE"},
		},
		Cabins: []api.Cabin{
			{Name: "A1", Berths: 2},
			{Name: "A2", Berths: 4},
			{Name: "B1", Category: 1, Berths: 3, Level: true},
			{Name: "D1", Category: 3, Berths: 1, Level: true},
		},
	}
}

// wants: what Check answers, and the other calls with it.
func wants(t *testing.T, what string, s api.Ship, want api.Errno) {
	t.Helper()
	if e := ship.Check(s); e != want {
		t.Errorf("%s: Check: %d, not %d", what, e, want)
	}
	if l, e := ship.Order(s); e != want || want != api.OK && l != nil {
		t.Errorf("%s: Order: %v, %d, not %d", what, l, e, want)
	}
	if ok, e := ship.Serves(s, 0, 0); e != want || ok != (want == api.OK) {
		t.Errorf("%s: Serves: %v, %d, not %d", what, ok, e, want)
	}
	if want == api.OK {
		return
	}
	if ok, e := ship.Serves(s, -1, 99); ok || e != want {
		t.Errorf("%s: Serves of no category: %v, %d, not %d", what, ok, e, want)
	}
}

type fault struct {
	name string
	do   func(s *api.Ship)
	want api.Errno
}

// faults in the order in which the document names them: where two of them are there, the one ahead is told.
func faults() []fault {
	return []fault{
		{"no leg", func(s *api.Ship) { s.Legs = 0 }, api.ErrRange},
		{"no soul", func(s *api.Ship) { s.Souls = 0 }, api.ErrRange},
		{"many categories", func(s *api.Ship) { s.Categories = make([]api.Category, 6) }, api.ErrMany},
		{"many cabins", func(s *api.Ship) { s.Cabins = make([]api.Cabin, 13) }, api.ErrMany},
		{"no categories", func(s *api.Ship) { s.Categories = nil }, api.ErrNone},
		{"no cabins", func(s *api.Ship) { s.Cabins = nil }, api.ErrNone},
		{"category's name", ofCategory(0, func(c *api.Category) { c.Name = "in" }), api.ErrForm},
		{"higher that is not there", ofCategory(0, func(c *api.Category) { c.Higher = []int{1, 4, 1} }), api.ErrRange},
		{"higher twice", ofCategory(1, func(c *api.Category) { c.Higher = []int{3, 3, 4} }), api.ErrTwice},
		{"category's name twice", ofCategory(2, func(c *api.Category) { c.Name, c.Higher = "IN", []int{9} }), api.ErrTwice},
		{"higher below 0", ofCategory(3, func(c *api.Category) { c.Higher = []int{-1} }), api.ErrRange},
		{"circle", ofCategory(3, func(c *api.Category) { c.Higher = []int{0} }), api.ErrState},
		{"cabin's name", ofCabin(0, func(c *api.Cabin) { c.Name = "" }), api.ErrForm},
		{"cabin's category", ofCabin(0, func(c *api.Cabin) { c.Category = 4 }), api.ErrRange},
		{"cabin's name twice", ofCabin(1, func(c *api.Cabin) { c.Name, c.Berths = "A1", 0 }), api.ErrTwice},
		{"cabin's berths", ofCabin(2, func(c *api.Cabin) { c.Berths = 5 }), api.ErrRange},
		{"last cabin's name", ofCabin(3, func(c *api.Cabin) { c.Name = "é" }), api.ErrForm},
	}
}

func ofCategory(i int, do func(c *api.Category)) func(s *api.Ship) {
	return func(s *api.Ship) {
		if i < len(s.Categories) {
			do(&s.Categories[i])
		}
	}
}

func ofCabin(i int, do func(c *api.Cabin)) func(s *api.Ship) {
	return func(s *api.Ship) {
		if i < len(s.Cabins) {
			do(&s.Cabins[i])
		}
	}
}

func TestB1Right(t *testing.T) {
	wants(t, "liner", liner(), api.OK)
	wants(t, "least", api.Ship{Legs: 1, Souls: 1, Categories: []api.Category{{Name: "0"}}, Cabins: []api.Cabin{{Name: "0", Berths: 1}}}, api.OK)
	great := api.Ship{Legs: 7, Souls: 60}
	for i := range 5 {
		great.Categories = append(great.Categories, api.Category{Name: "ABCDEFG" + string(rune('0'+i)), Higher: []int{0, 1, 2, 3}[:i]})
	}
	for i := range 12 {
		great.Cabins = append(great.Cabins, api.Cabin{Name: "0123456" + string(rune('A'+i)), Category: 4, Berths: 4})
	}
	wants(t, "greatest", great, api.OK)
	both := liner()
	both.Cabins[0].Name = "IN"
	wants(t, "a cabin by the name of a category", both, api.OK)
}

func TestB1Faults(t *testing.T) {
	for _, f := range faults() {
		s := liner()
		f.do(&s)
		wants(t, f.name, s, f.want)
	}
}

func TestB1FaultAheadTells(t *testing.T) {
	l := faults()
	for i, ahead := range l {
		for _, behind := range l[i+1:] {
			s := liner()
			behind.do(&s)
			ahead.do(&s)
			wants(t, ahead.name+" and "+behind.name, s, ahead.want)
		}
	}
}

func TestB1Numbers(t *testing.T) {
	for _, n := range []int{math.MinInt, -1, 0, 1, 2, 3, 4, 5, 6, 7, 8, 59, 60, 61, math.MaxInt} {
		check := func(what string, do func(s *api.Ship), right bool) {
			s := liner()
			do(&s)
			want := api.ErrRange
			if right {
				want = api.OK
			}
			wants(t, what, s, want)
		}
		check("legs", func(s *api.Ship) { s.Legs = n }, n >= 1 && n <= 7)
		check("souls", func(s *api.Ship) { s.Souls = n }, n >= 1 && n <= 60)
		check("berths", func(s *api.Ship) { s.Cabins[3].Berths = n }, n >= 1 && n <= 4)
		check("category", func(s *api.Ship) { s.Cabins[3].Category = n }, n >= 0 && n <= 3)
	}
}

func TestB1Higher(t *testing.T) {
	for _, c := range []struct {
		higher []int
		want   api.Errno
	}{
		{nil, api.OK},
		{[]int{}, api.OK},
		{[]int{3, 2, 1}, api.OK},
		{[]int{4}, api.ErrRange},
		{[]int{-1}, api.ErrRange},
		{[]int{math.MinInt}, api.ErrRange},
		{[]int{math.MaxInt}, api.ErrRange},
		{[]int{1, 1}, api.ErrTwice},
		{[]int{1, 2, 3, 1}, api.ErrTwice},
		{[]int{0}, api.ErrState},
		{[]int{1, 2, 0}, api.ErrState},
		{[]int{0, 0}, api.ErrTwice},
		{[]int{1, 1, 4}, api.ErrTwice},
		{[]int{4, 1, 1}, api.ErrRange},
		{[]int{1, 4, 1}, api.ErrRange},
		{make([]int, 100000), api.ErrTwice},
	} {
		s := liner()
		s.Categories[0].Higher = c.higher
		wants(t, "higher", s, c.want)
	}
}

func TestB1Names(t *testing.T) {
	long := strings.Repeat("A", 1<<20)
	for _, name := range []string{"", "ABCDEFGHI", "012345678", long, "a", "AB c", "A\x00", "É", "ABCDEFÉ", "ABCDEFG\xff"} {
		wantsNames(t, name, api.ErrForm)
	}
	for _, name := range []string{"A", "Z", "0", "9", "ABCDEFGH", "01234567", "89XYZ"} {
		wantsNames(t, name, api.OK)
	}
	for c := range 256 {
		want := api.ErrForm
		if strings.IndexByte("ABCDEFGHIJKLMNOPQRSTUVWXYZ0123456789", byte(c)) >= 0 {
			want = api.OK
		}
		sign := string([]byte{byte(c)})
		for _, name := range []string{sign, sign + "QQ", "Q" + sign + "Q", "QQQQQQQ" + sign} {
			wantsNames(t, name, want)
		}
	}
}

func wantsNames(t *testing.T, name string, want api.Errno) {
	t.Helper()
	s := liner()
	s.Categories[1].Name = name
	wants(t, "category "+name[:min(len(name), 20)], s, want)
	s = liner()
	s.Cabins[1].Name = name
	wants(t, "cabin "+name[:min(len(name), 20)], s, want)
}
