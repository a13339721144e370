package sell_test

import (
	"fmt"
	"reflect"
	"slices"
	"testing"

	"taffrail/api"
	"taffrail/book"
	"taffrail/sell"
	"taffrail/stock"
)

// draw: numbers, the same each time.
type draw uint64

func (d *draw) n(n int) int {
	*d = *d*6364136223846793005 + 1442695040888963407
	return int(uint64(*d) >> 33 % uint64(n))
}

// served by category of who is promised: which categories of the liner serve it.
func served() [4][4]bool {
	return [4][4]bool{{true, true, true, true}, {false, true, false, true}, {false, false, true, true}, {false, false, false, true}}
}

func live(b api.Booking) bool { return b.State != api.StateGone }

// onLeg: is a booking live there?
func onLeg(b api.Booking, leg int) bool { return live(b) && b.Span.From <= leg && leg < b.Span.To }

// mayHave: cabins that may keep a promise.
func mayHave(s api.Sailing, b api.Booking) []int {
	var l []int
	for i, c := range s.Ship.Cabins {
		had := slices.ContainsFunc(s.Bookings, func(x api.Booking) bool { return live(x) && x.Cabin == i })
		if !had && served()[b.Category][c.Category] && c.Berths >= b.Guests && (c.Level || !b.Level) {
			l = append(l, i)
		}
	}
	return l
}

// kept: can all of some promises have a cabin, each another one? All ways are gone through.
func kept(may [][]int, without map[int]int) bool {
	if len(may) == 0 {
		return true
	}
	for _, cabin := range may[0] {
		if without[cabin] > 0 {
			continue
		}
		without[cabin]++
		ok := kept(may[1:], without)
		without[cabin]--
		if ok {
			return true
		}
	}
	return false
}

// matched: can the open promises of a sailing of the liner be kept?
func matched(s api.Sailing) bool {
	var may [][]int
	for _, b := range s.Bookings {
		if live(b) && b.Kind == api.KindPromise && b.Cabin == -1 {
			may = append(may, mayHave(s, b))
		}
	}
	return kept(may, map[int]int{})
}

// price by the words of the document, of the liner's fares.
func price(s api.Sailing, b api.Booking) int {
	category := b.Category
	if b.Kind == api.KindNamed {
		category = s.Ship.Cabins[b.Cabin].Category
	}
	sum := 0
	for leg := b.Span.From; leg < b.Span.To; leg++ {
		sum += tariff().Leg[category][leg]
	}
	return []int{sum + (sum*75+50)/100, 2 * sum, 2*sum + (sum*33+50)/100, 2*sum + 2*((sum*33+50)/100)}[b.Guests-1]
}

// more: a sailing with a booking where it belongs, with its fare.
func more(s api.Sailing, b api.Booking) api.Sailing {
	b.Folio = []api.Entry{{Day: s.Day, Kind: api.EntryFare, Amount: price(s, b)}}
	s.Bookings = append(slices.Clone(s.Bookings), b)
	slices.SortFunc(s.Bookings, func(a, b api.Booking) int { return a.Id - b.Id })
	return s
}

// wanted: what the document says of a booking that would be sold on a sailing of the liner that is right.
func wanted(kind int, s api.Sailing, b api.Booking) api.Errno {
	if b.Kind != kind || b.State == api.StateGone {
		return api.ErrKind
	}
	if len(b.Folio) > 0 || kind == api.KindPromise && b.Cabin != -1 {
		return api.ErrForm
	}
	if e := book.Check(s.Ship, b); e != api.OK {
		return e
	}
	late := b.State == api.StateOption && (b.Until < s.Day || b.Until >= s.Leaves)
	if s.Day >= s.Leaves || late || kind == api.KindPromise && s.Closed {
		return api.ErrState
	}
	if slices.ContainsFunc(s.Bookings, func(x api.Booking) bool { return x.Id == b.Id }) {
		return api.ErrTwice
	}
	if len(s.Bookings) >= 16 {
		return api.ErrMany
	}
	for leg := b.Span.From; leg < b.Span.To; leg++ {
		if slices.ContainsFunc(s.Bookings, func(x api.Booking) bool { return onLeg(x, leg) && x.Cabin == b.Cabin && b.Cabin != -1 }) {
			return api.ErrTwice
		}
	}
	for leg := b.Span.From; leg < b.Span.To; leg++ {
		n := b.Guests
		for _, x := range s.Bookings {
			if onLeg(x, leg) {
				n += x.Guests
			}
		}
		if n > s.Ship.Souls {
			return api.ErrSpace
		}
	}
	if !matched(more(s, b)) {
		return api.ErrFull
	}
	return api.OK
}

// some booking, mostly one that might be sold.
func some(d *draw) api.Booking {
	b := named(1+d.n(60), d.n(5), 1+d.n(3), d.n(4), 4)
	b.Span.To = b.Span.From + 1 + d.n(4-b.Span.From)
	if d.n(2) == 0 {
		b = promise(1+d.n(60), d.n(4), 1+d.n(3))
	}
	if d.n(3) == 0 {
		b = option(b, d.n(12))
	}
	switch d.n(60) {
	case 0:
		b.State = d.n(5)
	case 1:
		b.Folio = []api.Entry{{Kind: api.EntryFare, Amount: 5}}
	case 2:
		b.Guests = d.n(6)
	case 3:
		b.Span.To = d.n(6)
	case 4:
		b.Cabin = d.n(7) - 1
	case 5:
		b.Id = 0
	}
	b.Level = d.n(6) == 0
	return b
}

// first sailing of the liner, on which nothing is sold; some are closed ahead of that.
func first(d *draw) api.Sailing {
	s := souls(4+d.n(12), on(d.n(9), 5+d.n(7), sailing()))
	s.Bookings = many(d.n(12), 100)
	if d.n(5) == 0 {
		s.Closed = true
		s.Bookings = append(s.Bookings, with(in(1, promise(200, 0, 1)), api.Entry{Kind: api.EntryFare, Amount: 674}))
	}
	return s
}

// wantsOffers: just the cabins in which Named would sell.
func wantsOffers(t *testing.T, s api.Sailing, b api.Booking) {
	t.Helper()
	l, e := sell.Offers(s, b.Guests, b.Level, b.Span)
	var want []int
	for cabin := range s.Ship.Cabins {
		x := named(999, cabin, b.Guests, b.Span.From, b.Span.To)
		x.Level = b.Level
		if wanted(api.KindNamed, s, x) == api.OK {
			want = append(want, cabin)
		}
	}
	if e == api.OK && !slices.Equal(l, want) {
		t.Fatalf("%v: Offers of %v = %v, not %v", s.Bookings, b, l, want)
	}
	bad := b.Guests < 1 || b.Guests > 4 || b.Span.From < 0 || b.Span.To > 4 || b.Span.From >= b.Span.To || s.Day >= s.Leaves || len(s.Bookings) >= 16
	if (e != api.OK) != bad {
		t.Fatalf("%v: Offers of %v tells %d", s.Bookings, b, e)
	}
}

// TestISome: some thousand bookings that are sold, or not, one behind the other: what is sold leaves a sailing right, and all other bookings as they were.
func TestISome(t *testing.T) {
	d := new(draw)
	told := map[api.Errno]int{}
	for range 600 {
		s := first(d)
		for range 20 {
			b := some(d)
			wantsOffers(t, s, b)
			kind := 1 + d.n(2)
			if d.n(8) != 0 {
				kind = b.Kind
			}
			want := wanted(kind, s, b)
			told[want]++
			wants(t, fmt.Sprint(s.Bookings, b), kind, s, b, want)
			if want != api.OK {
				continue
			}
			next, _ := sold(kind, s, b)
			if right := more(s, b); fmt.Sprint(next) != fmt.Sprint(right) {
				t.Fatalf("%v, not %v", next, right)
			}
			if e := stock.Check(next); e != api.OK {
				t.Fatalf("%v is not right: %d", next, e)
			}
			s = next
		}
	}
	for e := api.OK; e <= api.ErrFull; e++ {
		if e != api.ErrNone && told[e] < 50 {
			t.Errorf("%d was told %d times alone", e, told[e])
		}
	}
}

// lists that a value has, at whatever depth.
func lists(v reflect.Value, see func(reflect.Value)) {
	switch v.Kind() {
	case reflect.Struct:
		for i := range v.NumField() {
			lists(v.Field(i), see)
		}
	case reflect.Slice:
		see(v)
		for i := range v.Len() {
			lists(v.Index(i), see)
		}
	}
}

// where the lists of some values lie: how many bytes lie in two of them.
func where(l ...any) int {
	met := map[uintptr]int{}
	for _, x := range l {
		lists(reflect.ValueOf(x), func(v reflect.Value) {
			for i := range uintptr(v.Cap()) * v.Type().Elem().Size() {
				met[v.Pointer()+i]++
			}
		})
	}
	twice := 0
	for _, n := range met {
		if n > 1 {
			twice++
		}
	}
	return twice
}

// spare: a sailing all of whose lists have room behind them, with something there; and all of it, as long as its lists can be.
func spare() (front, all api.Sailing) {
	all = busy()
	all.Bookings[0].Folio = append(all.Bookings[0].Folio, api.Entry{Day: 77})
	all.Bookings = append(all.Bookings, api.Booking{Id: 77}, api.Booking{Id: 78})
	all.Ship.Categories[0].Higher = []int{1, 2, 77}
	all.Ship.Categories = append(all.Ship.Categories, api.Category{Name: "77"})
	all.Ship.Cabins = append(all.Ship.Cabins, api.Cabin{Name: "77"})
	all.Fares.Leg[0] = append(all.Fares.Leg[0], 77)
	all.Fares.Leg = append(all.Fares.Leg, []int{77})
	all.Fares.Bands = append(all.Fares.Bands, api.Band{Days: 77})
	front = all
	front.Bookings = slices.Clone(all.Bookings)[:7]
	front.Bookings[0].Folio = all.Bookings[0].Folio[:2]
	front.Ship.Categories = slices.Clone(all.Ship.Categories)[:4]
	front.Ship.Categories[0].Higher = all.Ship.Categories[0].Higher[:2]
	front.Ship.Cabins = all.Ship.Cabins[:5]
	front.Fares.Leg = slices.Clone(all.Fares.Leg)[:4]
	front.Fares.Leg[0] = all.Fares.Leg[0][:4]
	front.Fares.Bands = all.Fares.Bands[:3]
	return front, all
}

// seen: all that lies in a sailing's lists, the room behind them too.
func seen(s api.Sailing) string {
	out := ""
	lists(reflect.ValueOf(s), func(v reflect.Value) { out += fmt.Sprint(v.Slice(0, v.Cap())) })
	return out
}

// TestP2: what is handed in, with the room behind it, stays as it was; an answer is new memory.
func TestP2(t *testing.T) {
	s, all := spare()
	wasFront, wasAll := seen(s), seen(all)
	b := named(9, 4, 1, 0, 1)
	b.Folio = []api.Entry{{Day: 77}}[:0]
	p := promise(99, 0, 1)
	p.Folio = b.Folio
	one, e := sell.Named(s, b)
	two, f := sell.Promise(s, p)
	offers, g := sell.Offers(s, 1, false, api.Span{To: 1})
	if e != api.OK || f != api.OK || g != api.OK || len(offers) == 0 {
		t.Fatalf("%d, %d, %d: %v", e, f, g, offers)
	}
	if seen(s) != wasFront || seen(all) != wasAll || b.Folio[:1][0].Day != 77 {
		t.Errorf("what was handed in is %v, and %v", s, all)
	}
	for _, x := range []any{one, two, offers} {
		if twice := where(s, b.Folio, x); twice != 0 {
			t.Errorf("%v shares %d bytes", x, twice)
		}
		if twice := where(x); twice != 0 {
			t.Errorf("two lists of %v share %d bytes", x, twice)
		}
	}
	was := fmt.Sprint(one, two)
	s.Bookings[0].Folio[0].Amount, s.Ship.Cabins[0].Name, s.Fares.Leg[1][1], s.Ship.Categories[0].Higher[0] = 1, "", -1, 7
	if fmt.Sprint(one, two) != was {
		t.Errorf("a later change is seen: %v, %v", one, two)
	}
}

// TestP3: the same each time, whatever was asked between.
func TestP3(t *testing.T) {
	one, e := sell.Named(busy(), named(9, 4, 1, 0, 1))
	two, f := sell.Promise(busy(), promise(99, 0, 1))
	if e != api.OK || f != api.OK {
		t.Fatalf("%d, %d", e, f)
	}
	was := fmt.Sprint(one, two)
	for range 50 {
		one, _ := sell.Named(busy(), named(9, 4, 1, 0, 1))
		two, _ := sell.Promise(busy(), promise(99, 0, 1))
		if fmt.Sprint(one, two) != was {
			t.Fatalf("%v, %v", one, two)
		}
		if l, e := sell.Offers(busy(), 3, false, api.Span{To: 2}); !slices.Equal(l, []int{1, 2, 4}) || e != api.OK {
			t.Fatalf("%v, %d", l, e)
		}
		wants(t, "twice", api.KindNamed, busy(), named(10, 4, 1, 0, 1), api.ErrTwice)
	}
}
