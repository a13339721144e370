package fare_test

import (
	"math"
	"reflect"
	"testing"

	"taffrail/api"
	"taffrail/fare"
)

// up: the part of an amount, told by whole units and what is over them.
func up(amount, hundredths int) int {
	n := 0
	rest := amount * hundredths
	for unit := 1 << 40; unit > 0; unit /= 2 {
		if rest >= unit*100 {
			rest -= unit * 100
			n += unit
		}
	}
	if rest >= 50 {
		n++
	}
	return n
}

// priced: the price, told guest by guest and leg by leg.
func priced(f api.Fares, category int, s api.Span, guests int) int {
	sum := 0
	for leg := s.From; leg < s.To; leg++ {
		sum += f.Leg[category][leg]
	}
	all := 0
	for guest := 1; guest <= guests; guest++ {
		if guest <= 2 {
			all += sum
		} else {
			all += up(sum, f.Third)
		}
	}
	if guests == 1 {
		all += up(sum, f.Alone)
	}
	return all
}

func TestE2PriceTold(t *testing.T) {
	for _, c := range []struct {
		category, from, to, guests, want int
	}{
		{0, 0, 4, 1, 674}, // 385, and 288.75 of it
		{0, 0, 4, 2, 770},
		{0, 0, 4, 3, 897}, // and 127.05
		{0, 0, 4, 4, 1024},
		{0, 1, 2, 1, 210},
		{0, 1, 2, 3, 280}, // and 39.6
		{0, 1, 2, 4, 320},
		{0, 2, 4, 1, 289}, // 165, and 123.75
		{0, 2, 4, 4, 438}, // and 54.45 twice, each rounded by itself: 108, not 109
		{1, 0, 4, 2, 1616},
		{2, 0, 1, 1, 0},
		{2, 0, 1, 4, 0},
		{2, 1, 2, 1, 175000},
		{2, 2, 3, 1, 2},      // 1, and 0.75
		{2, 2, 3, 4, 2},      // and 0.33 twice
		{2, 0, 4, 4, 267070}, // 100402 twice, and 33132.66 twice
	} {
		a := tariff()
		if n, e := fare.Price(a.Fares, 3, 4, c.category, api.Span{From: c.from, To: c.to}, c.guests); n != c.want || e != api.OK {
			t.Errorf("Price of %v = %d, %d", c, n, e)
		}
	}
}

// TestE2Half: just half a unit goes up, and less does not.
func TestE2Half(t *testing.T) {
	f := api.Fares{Leg: [][]int{{50}}, Alone: 1, Third: 1, Down: 1, Bands: []api.Band{{Days: 0, Part: 1}}}
	for _, c := range []struct{ amount, part int }{{49, 0}, {50, 1}, {51, 1}, {149, 1}, {150, 2}, {0, 0}, {100, 1}, {199, 2}} {
		f.Leg[0][0] = c.amount
		one, e := fare.Price(f, 1, 1, 0, api.Span{To: 1}, 1)
		four, g := fare.Price(f, 1, 1, 0, api.Span{To: 1}, 4)
		down, h := fare.Down(f, 1, 1, c.amount)
		penalty, i := fare.Penalty(f, 1, 1, c.amount, 0)
		if e != api.OK || g != api.OK || h != api.OK || i != api.OK {
			t.Fatalf("%v: %d, %d, %d, %d", c, e, g, h, i)
		}
		if one != c.amount+c.part || four != 2*c.amount+2*c.part || down != c.part || penalty != c.part {
			t.Errorf("%v: %d, %d, %d, %d", c, one, four, down, penalty)
		}
	}
}

// TestE2PriceEach: all spans, with fares and parts at the edges.
func TestE2PriceEach(t *testing.T) {
	legs := [][]int{{0, 1, 2, 3, 49, 50, 51}, {99999, 100000, 100000, 100000, 100000, 100000, 100000}, {333, 66, 17, 101, 1, 99, 7}}
	for _, alone := range []int{0, 1, 33, 50, 75, 99, 100, 101, 199, 200} {
		for _, third := range []int{0, 1, 33, 50, 67, 99, 100} {
			f := api.Fares{Leg: legs, Alone: alone, Third: third, Down: 50}
			for category := range 3 {
				for from := range 7 {
					for to := from + 1; to <= 7; to++ {
						for guests := 1; guests <= 4; guests++ {
							s := api.Span{From: from, To: to}
							want := priced(f, category, s, guests)
							if n, e := fare.Price(f, 3, 7, category, s, guests); n != want || e != api.OK {
								t.Fatalf("Price of %d, %d, %d, %v, %d = %d, %d, not %d", alone, third, category, s, guests, n, e, want)
							}
						}
					}
				}
			}
		}
	}
}

// TestE2PriceWrong: a category that is not there is told ahead of a wrong span, and that ahead of guests.
func TestE2PriceWrong(t *testing.T) {
	a := tariff()
	wrong := func(category int, s api.Span, guests int, want api.Errno) {
		t.Helper()
		if n, e := fare.Price(a.Fares, 3, 4, category, s, guests); n != 0 || e != want {
			t.Errorf("Price of %d, %v, %d = %d, %d, not %d", category, s, guests, n, e, want)
		}
	}
	spans := []struct {
		s    api.Span
		want api.Errno
	}{
		{api.Span{From: -1, To: 2}, api.ErrRange},
		{api.Span{From: 0, To: 5}, api.ErrRange},
		{api.Span{From: math.MinInt, To: math.MaxInt}, api.ErrRange},
		{api.Span{From: 0, To: 0}, api.ErrState},
		{api.Span{From: 3, To: 2}, api.ErrState},
		{api.Span{From: math.MaxInt, To: math.MinInt}, api.ErrState},
	}
	for _, guests := range []int{math.MinInt, -1, 0, 1, 4, 5, math.MaxInt} {
		for _, category := range []int{math.MinInt, -1, 3, 4, math.MaxInt} {
			wrong(category, api.Span{To: 4}, guests, api.ErrRange)
			for _, c := range spans {
				wrong(category, c.s, guests, api.ErrRange)
			}
		}
		for _, c := range spans {
			for category := range 3 {
				wrong(category, c.s, guests, c.want)
			}
		}
		if guests < 1 || guests > 4 {
			wrong(0, api.Span{To: 4}, guests, api.ErrRange)
			wrong(2, api.Span{From: 3, To: 4}, guests, api.ErrRange)
		}
	}
}

func TestE2Told(t *testing.T) {
	for _, c := range []struct{ price, down, days, penalty int }{
		{0, 0, 0, 0},
		{1, 0, 0, 1},
		{1, 0, 4, 1}, // 0.6
		{1, 0, 15, 0},
		{2, 1, 3, 2}, // 0.5
		{333, 83, 3, 333},
		{333, 83, 4, 200}, // 199.8
		{333, 83, 14, 200},
		{333, 83, 15, 67}, // 66.6
		{333, 83, 30, 67},
		{333, 83, 31, 0},
		{333, 83, 999, 0},
		{333, 83, 1000, 0},
		{333, 83, math.MaxInt, 0},
		{100000000, 25000000, 14, 60000000},
		{99999999, 25000000, 14, 59999999},
	} {
		a := tariff()
		if n, e := fare.Down(a.Fares, 3, 4, c.price); n != c.down || e != api.OK {
			t.Errorf("Down of %d = %d, %d", c.price, n, e)
		}
		if n, e := fare.Penalty(a.Fares, 3, 4, c.price, c.days); n != c.penalty || e != api.OK {
			t.Errorf("Penalty of %d, %d = %d, %d", c.price, c.days, n, e)
		}
	}
}

// TestE2Wrong: a wrong price is told, and wrong days are, whatever the other one is.
func TestE2Wrong(t *testing.T) {
	a := tariff()
	for _, price := range []int{math.MinInt, -1, 100000001, math.MaxInt} {
		if n, e := fare.Down(a.Fares, 3, 4, price); n != 0 || e != api.ErrRange {
			t.Errorf("Down of %d = %d, %d", price, n, e)
		}
		for _, days := range []int{math.MinInt, -1, 0, 14, 31, math.MaxInt} {
			if n, e := fare.Penalty(a.Fares, 3, 4, price, days); n != 0 || e != api.ErrRange {
				t.Errorf("Penalty of %d, %d = %d, %d", price, days, n, e)
			}
		}
	}
	for _, days := range []int{math.MinInt, -1} {
		for _, price := range []int{0, 1, 100000000} {
			if n, e := fare.Penalty(a.Fares, 3, 4, price, days); n != 0 || e != api.ErrRange {
				t.Errorf("Penalty of %d, %d = %d, %d", price, days, n, e)
			}
		}
	}
}

// eachBands goes through all bands of up to four whose days and parts are some of those at the edges.
func eachBands(l []api.Band, do func(l []api.Band)) {
	do(l)
	if len(l) == api.MaxBands {
		return
	}
	for _, days := range []int{0, 1, 3, 14, 999} {
		for _, part := range []int{0, 1, 49, 50, 100} {
			if n := len(l); n > 0 && (days <= l[n-1].Days || part > l[n-1].Part) {
				continue
			}
			eachBands(append(l[:len(l):len(l)], api.Band{Days: days, Part: part}), do)
		}
	}
}

// TestE3: a penalty is that of the least band that is not less, never more than the price, and never more the earlier one cancels.
func TestE3(t *testing.T) {
	many := 0
	eachBands(nil, func(l []api.Band) {
		many++
		f := api.Fares{Leg: [][]int{{1}}, Bands: l}
		for _, price := range []int{0, 1, 2, 50, 333, 99999999, 100000000} {
			last := price
			for _, days := range []int{0, 1, 2, 3, 4, 14, 15, 998, 999, 1000, math.MaxInt} {
				want := 0
				for i := len(l) - 1; i >= 0 && l[i].Days >= days; i-- {
					want = up(price, l[i].Part)
				}
				n, e := fare.Penalty(f, 1, 1, price, days)
				if n != want || e != api.OK || n > last {
					t.Fatalf("Penalty of %v, %d, %d = %d, %d, not %d; later: %d", l, price, days, n, e, want, last)
				}
				last = n
			}
		}
	})
	if many != 876 {
		t.Errorf("%d lists of bands, not 876", many)
	}
}

// TestE2DownEach: all parts, of Down and of a band.
func TestE2DownEach(t *testing.T) {
	for part := 0; part <= 100; part++ {
		f := api.Fares{Leg: [][]int{{1}}, Down: part, Alone: 200, Third: 7, Bands: []api.Band{{Days: 9, Part: 100 - part}}}
		for _, price := range []int{0, 1, 2, 3, 49, 50, 51, 99, 100, 333, 12345, 99999999, 100000000} {
			if n, e := fare.Down(f, 1, 1, price); n != up(price, part) || e != api.OK {
				t.Fatalf("Down of %d, %d = %d, %d", part, price, n, e)
			}
			if n, e := fare.Penalty(f, 1, 1, price, 9); n != up(price, 100-part) || e != api.OK {
				t.Fatalf("Penalty of %d, %d = %d, %d", 100-part, price, n, e)
			}
		}
	}
}

// TestP2: what is handed in, with the room behind it, stays as it was.
func TestP2(t *testing.T) {
	roomy := func() asked {
		a := tariff()
		a.Leg = append(a.Leg, []int{9, 9, 9, 9})[:3]
		for i := range a.Leg {
			a.Leg[i] = append(a.Leg[i], 77, 78)[:4]
		}
		a.Bands = append(a.Bands, api.Band{Days: 40, Part: 10})[:3]
		return a
	}
	// all of it, with what lies behind its lists.
	all := func(a asked) asked {
		a.Leg = a.Leg[:4]
		for i := range 3 {
			a.Leg[i] = a.Leg[i][:6]
		}
		a.Bands = a.Bands[:4]
		return a
	}
	a := roomy()
	fare.Check(a.Fares, 3, 4)
	for guests := range 6 {
		fare.Price(a.Fares, 3, 4, 1, api.Span{From: 1, To: 4}, guests)
		fare.Down(a.Fares, 3, 4, guests-1)
		fare.Penalty(a.Fares, 3, 4, 100, 10*guests-1)
	}
	if !reflect.DeepEqual(all(a), all(roomy())) {
		t.Errorf("what was handed in is %v", a)
	}
}

// TestP3: the same each time, whatever was asked between; and by what is handed in then.
func TestP3(t *testing.T) {
	a := tariff()
	for i := range 50 {
		a.Leg[0][0] = i
		if n, e := fare.Price(a.Fares, 3, 4, 0, api.Span{To: 2}, 2); n != 2*(i+120) || e != api.OK {
			t.Fatalf("Price: %d, %d", n, e)
		}
		if n, e := fare.Price(a.Fares, 3, 4, 0, api.Span{To: 5}, 2); n != 0 || e != api.ErrRange {
			t.Fatalf("Price of no span: %d, %d", n, e)
		}
		if n, e := fare.Down(a.Fares, 3, 4, 1001); n != 250 || e != api.OK {
			t.Fatalf("Down: %d, %d", n, e)
		}
		if n, e := fare.Penalty(a.Fares, 3, 4, 1001, 14); n != 601 || e != api.OK {
			t.Fatalf("Penalty: %d, %d", n, e)
		}
	}
}
