package fare_test

import (
	"math"
	"testing"

	"taffrail/api"
	"taffrail/fare"
)

// asked: fares, and what they are checked for.
type asked struct {
	api.Fares
	categories, legs int
}

// tariff of three categories and four legs: right, and with no number that its neighbours have too.
func tariff() asked {
	return asked{api.Fares{
		Leg:   [][]int{{100, 120, 90, 75}, {199, 201, 203, 205}, {0, 100000, 1, 401}},
		Alone: 75, Third: 33, Down: 25,
		Bands: []api.Band{{Days: 3, Part: 100}, {Days: 14, Part: 60}, {Days: 30, Part: 20}},
	}, 3, 4}
}

// wants: that Check, and all calls with it, tell an error, and nothing else. A wrong one is told ahead of all else that is wrong.
func wants(t *testing.T, what string, a asked, want api.Errno) {
	t.Helper()
	if e := fare.Check(a.Fares, a.categories, a.legs); e != want {
		t.Errorf("%s: Check = %d, not %d", what, e, want)
	}
	wantsAll(t, what, a, 0, api.Span{To: 1}, 2, 0, 0, want)
	if want == api.OK {
		return
	}
	wantsAll(t, what, a, 1, api.Span{From: 2, To: 2}, 1, 1, 1, want)
	wantsAll(t, what, a, -1, api.Span{From: -1, To: 9}, 0, -1, -1, want)
	wantsAll(t, what, a, 99, api.Span{From: 3, To: 2}, 5, 100000001, -9, want)
}

func wantsAll(t *testing.T, what string, a asked, category int, s api.Span, guests, price, days int, want api.Errno) {
	t.Helper()
	wantsNone := func(call string, n int, e api.Errno) {
		t.Helper()
		if e != want || want != api.OK && n != 0 {
			t.Errorf("%s: %s = %d, %d, not %d", what, call, n, e, want)
		}
	}
	n, e := fare.Price(a.Fares, a.categories, a.legs, category, s, guests)
	wantsNone("Price", n, e)
	n, e = fare.Down(a.Fares, a.categories, a.legs, price)
	wantsNone("Down", n, e)
	n, e = fare.Penalty(a.Fares, a.categories, a.legs, price, days)
	wantsNone("Penalty", n, e)
}

type fault struct {
	name string
	do   func(a *asked)
	want api.Errno
}

// faults in the order in which the document names them: where two of them are there, the one ahead is told.
func faults() []fault {
	return []fault{
		{"no category", func(a *asked) { a.categories = 0 }, api.ErrRange},
		{"many legs", func(a *asked) { a.legs = 8 }, api.ErrRange},
		{"a category less", func(a *asked) { a.Leg = a.Leg[:2] }, api.ErrForm},
		{"last category a leg less", func(a *asked) { a.Leg[len(a.Leg)-1] = a.Leg[len(a.Leg)-1][:3] }, api.ErrForm},
		{"first category a leg more", func(a *asked) { a.Leg[0] = append(a.Leg[0], 1) }, api.ErrForm},
		{"fare below 0", func(a *asked) { a.Leg[0][0] = -1 }, api.ErrRange},
		{"great fare", func(a *asked) { a.Leg[1][2] = 100001 }, api.ErrRange},
		{"alone", func(a *asked) { a.Alone = 201 }, api.ErrRange},
		{"third", func(a *asked) { a.Third = 101 }, api.ErrRange},
		{"down", func(a *asked) { a.Down = -1 }, api.ErrRange},
		{"many bands", func(a *asked) { a.Bands = append(a.Bands, make([]api.Band, 5)...) }, api.ErrMany},
		{"first band's days", func(a *asked) { a.Bands[0].Days = 1000 }, api.ErrRange},
		{"first band's part", func(a *asked) { a.Bands[0].Part = -1 }, api.ErrRange},
		{"second band's part out of range", func(a *asked) { a.Bands[1].Part = 101 }, api.ErrRange},
		{"second band's days of the one ahead", func(a *asked) { a.Bands[1].Days = a.Bands[0].Days }, api.ErrState},
		{"second band's part of more than the one ahead", func(a *asked) { a.Bands[0].Part, a.Bands[1].Part = 50, 51 }, api.ErrState},
		{"third band's part out of range", func(a *asked) { a.Bands[2].Part = 101 }, api.ErrRange},
		{"third band's days less than the one ahead", func(a *asked) { a.Bands[2].Days = a.Bands[1].Days - 1 }, api.ErrState},
	}
}

func TestE1Faults(t *testing.T) {
	wants(t, "tariff", tariff(), api.OK)
	for _, f := range faults() {
		a := tariff()
		f.do(&a)
		wants(t, f.name, a, f.want)
	}
}

func TestE1FaultAheadTells(t *testing.T) {
	l := faults()
	for i, ahead := range l {
		for _, behind := range l[i+1:] {
			a := tariff()
			behind.do(&a)
			ahead.do(&a)
			wants(t, ahead.name+" and "+behind.name, a, ahead.want)
		}
	}
}

// TestE1Form: all categories up to 7 and legs up to 9, asked for all of them.
func TestE1Form(t *testing.T) {
	for _, categories := range []int{math.MinInt, -1, 0, 1, 2, 3, 4, 5, 6, math.MaxInt} {
		for _, legs := range []int{math.MinInt, -1, 0, 1, 2, 3, 4, 5, 6, 7, 8, math.MaxInt} {
			for rows := range 7 {
				for row := range 9 {
					a := asked{api.Fares{Leg: make([][]int, rows)}, categories, legs}
					for i := range a.Leg {
						a.Leg[i] = make([]int, row)
					}
					want := api.OK
					if categories < 1 || categories > 5 || legs < 1 || legs > 7 {
						want = api.ErrRange
					} else if rows != categories || row != legs {
						want = api.ErrForm
					}
					wants(t, "form", a, want)
				}
			}
		}
	}
	wants(t, "nothing", asked{api.Fares{}, 1, 1}, api.ErrForm)
	wants(t, "far too many", asked{api.Fares{Leg: make([][]int, 100000)}, 5, 7}, api.ErrForm)
	wants(t, "of one far too many", asked{api.Fares{Leg: [][]int{make([]int, 100000)}}, 1, 7}, api.ErrForm)
}

// TestE1EachRow: whichever row has a leg less or more, and whichever number is wrong, it is told.
func TestE1EachRow(t *testing.T) {
	for i := range 3 {
		for _, legs := range []int{0, 1, 3, 5} {
			a := tariff()
			a.Leg[i] = make([]int, legs)
			wants(t, "row", a, api.ErrForm)
		}
		a := tariff()
		a.Leg[i] = nil
		wants(t, "no row", a, api.ErrForm)
		for leg := range 4 {
			number(t, "fare", 0, 100000, func(a *asked, n int) { a.Leg[i][leg] = n })
		}
	}
}

// number: whichever of its kind is told as it is in range or not.
func number(t *testing.T, what string, least, most int, set func(a *asked, n int)) {
	t.Helper()
	for _, n := range []int{math.MinInt, least - 1, least, least + 1, most - 1, most, most + 1, math.MaxInt} {
		a := tariff()
		set(&a, n)
		want := api.ErrRange
		if n >= least && n <= most {
			want = api.OK
		}
		wants(t, what, a, want)
	}
}

func TestE1Numbers(t *testing.T) {
	number(t, "alone", 0, 200, func(a *asked, n int) { a.Alone = n })
	number(t, "third", 0, 100, func(a *asked, n int) { a.Third = n })
	number(t, "down", 0, 100, func(a *asked, n int) { a.Down = n })
	number(t, "a band's days", 0, 999, func(a *asked, n int) { a.Bands = []api.Band{{Days: n}} })
	number(t, "a band's part", 0, 100, func(a *asked, n int) { a.Bands = []api.Band{{Part: n}} })
}

// bands, each told by its days and its part.
func bands(n ...int) []api.Band {
	var l []api.Band
	for i := 0; i < len(n); i += 2 {
		l = append(l, api.Band{Days: n[i], Part: n[i+1]})
	}
	return l
}

func TestE1Bands(t *testing.T) {
	for _, c := range []struct {
		name  string
		bands []api.Band
		want  api.Errno
	}{
		{"none", nil, api.OK},
		{"empty", []api.Band{}, api.OK},
		{"of nothing", []api.Band{{}}, api.OK},
		{"four", bands(0, 100, 1, 99, 998, 1, 999, 0), api.OK},
		{"all of one part", bands(0, 100, 1, 100, 2, 100, 3, 100), api.OK},
		{"all of no part", bands(0, 0, 1, 0, 2, 0, 3, 0), api.OK},
		{"five", bands(0, 9, 1, 8, 2, 7, 3, 6, 4, 5), api.ErrMany},
		{"five wrong ones", make([]api.Band, 5), api.ErrMany},
		{"far too many", make([]api.Band, 100000), api.ErrMany},
		{"two of one day", bands(5, 50, 5, 50), api.ErrState},
		{"falling days", bands(5, 50, 4, 40), api.ErrState},
		{"rising part", bands(5, 50, 6, 51), api.ErrState},
		{"last of the day ahead", bands(1, 4, 2, 3, 3, 2, 3, 1), api.ErrState},
		{"last of a part that rises", bands(1, 4, 2, 3, 3, 1, 4, 2), api.ErrState},
		{"range ahead of state", bands(5, 50, 5, 101), api.ErrRange},
		{"days below 0 ahead of state", bands(5, 50, -1, 50), api.ErrRange},
		{"state of one ahead of range of a later one", bands(5, 50, 5, 50, 1000, 0), api.ErrState},
	} {
		a := tariff()
		a.Bands = c.bands
		wants(t, c.name, a, c.want)
	}
}
