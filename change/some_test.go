package change_test

import (
	"fmt"
	"reflect"
	"slices"
	"testing"

	"taffrail/api"
	"taffrail/book"
	"taffrail/change"
	"taffrail/stock"
)

// draw: numbers, the same each time.
type draw uint64

func (d *draw) n(n int) int {
	*d = *d*6364136223846793005 + 1442695040888963407
	return int(uint64(*d) >> 33 % uint64(n))
}

// some booking of a cabin or a promise, with a folio.
func some(d *draw, id int, closed bool) api.Booking {
	b := named(id, d.n(5), 1+d.n(3), d.n(4), 4)
	b.Span.To = b.Span.From + 1 + d.n(4-b.Span.From)
	if d.n(2) == 0 {
		b = promise(id, d.n(4), 1+d.n(3))
		if closed {
			b.Cabin = d.n(5)
		}
	}
	switch d.n(3) {
	case 0:
		b = gone(b)
	case 1:
		b = option(b, d.n(20))
	}
	b.Level = d.n(6) == 0
	for i := range d.n(7) {
		b.Folio = append(b.Folio, []api.Entry{fare(i, d.n(500)), paid(i, d.n(500)), back(i, d.n(300)-200), penalty(i, d.n(50))}[d.n(4)])
	}
	return b
}

// someSailing that is right: bookings come that leave it so.
func someSailing(d *draw) api.Sailing {
	s := sailing()
	s.Day, s.Leaves, s.Closed = d.n(50), d.n(50), d.n(4) == 0
	for i := range 14 {
		b := some(d, 2+2*i, s.Closed)
		if ok, e := stock.Could(s, b); ok && e == api.OK {
			s.Bookings = append(s.Bookings, b)
		}
	}
	return s
}

// sum of the entries of some kinds.
func sum(l []api.Entry, kinds ...int) int {
	n := 0
	for _, x := range l {
		if slices.Contains(kinds, x.Kind) {
			n += x.Amount
		}
	}
	return n
}

// added: a folio with entries behind all, if it may be.
func added(b api.Booking, l ...api.Entry) (api.Booking, api.Errno) {
	b.Folio = slices.Concat(b.Folio, l)
	if len(b.Folio) > 12 {
		return b, api.ErrMany
	}
	for i := 1; i < len(b.Folio); i++ {
		if b.Folio[i].Day < b.Folio[i-1].Day {
			return b, api.ErrState
		}
	}
	return b, api.OK
}

// cancelled by the words of the document, with the liner's bands.
func cancelled(s api.Sailing, b api.Booking) (api.Booking, api.Errno) {
	fares, days, part := sum(b.Folio, api.EntryFare, api.EntryBack), s.Leaves-s.Day, 0
	switch {
	case b.State == api.StateOption || days > 30 || fares < 0:
	case days > 14:
		part = 20
	case days > 3:
		part = 60
	default:
		part = 100
	}
	var l []api.Entry
	owed := sum(b.Folio, api.EntryPaid, api.EntryPenalty)
	if fares != 0 {
		l = append(l, back(s.Day, -fares))
	}
	if n := (fares*part + 50) / 100; n > 0 && part > 0 {
		l = append(l, penalty(s.Day, n))
		owed += n
	}
	if owed < 0 {
		l = append(l, back(s.Day, -owed))
	}
	return added(gone(b), l...)
}

// moved by the words of the document.
func moved(s api.Sailing, b api.Booking, cabin int) (api.Booking, api.Errno) {
	switch {
	case b.Cabin == -1:
		return b, api.ErrState
	case cabin < 0 || cabin > 4:
		return b, api.ErrRange
	case cabin == b.Cabin:
		return b, api.ErrTwice
	}
	b.Cabin = cabin
	if e := book.Check(s.Ship, b); e != api.OK {
		return b, e
	}
	for _, x := range s.Bookings {
		if x.Id != b.Id && x.State != api.StateGone && x.Cabin == cabin && x.Span.From < b.Span.To && b.Span.From < x.Span.To {
			return b, api.ErrTwice
		}
	}
	s.Bookings = slices.DeleteFunc(slices.Clone(s.Bookings), func(x api.Booking) bool { return x.Id == b.Id })
	if ok, _ := stock.Could(s, b); !ok {
		return b, api.ErrFull
	}
	return b, api.OK
}

// step: some change, and what the document says of it.
func step(d *draw, s api.Sailing, b api.Booking) (string, one, api.Booking, api.Errno) {
	switch d.n(4) {
	case 0:
		if b.State != api.StateOption {
			return "Sure", change.Sure, b, api.ErrState
		}
		return "Sure", change.Sure, sure(b), api.OK
	case 1:
		amount := d.n(300) * min(1, d.n(9))
		if amount == 0 {
			return "Pay", pay(amount), b, api.ErrRange
		}
		if amount > sum(b.Folio, 1, 2, 3, 4) {
			return "Pay", pay(amount), b, api.ErrState
		}
		want, e := added(b, paid(s.Day, amount))
		return "Pay", pay(amount), want, e
	case 2:
		want, e := cancelled(s, b)
		return "Cancel", change.Cancel, want, e
	}
	cabin := d.n(7) - 1
	want, e := moved(s, b, cabin)
	return "Move", move(cabin), want, e
}

// TestJSome: some thousand changes, one behind the other: what is changed leaves a sailing right, and all other bookings as they were.
func TestJSome(t *testing.T) {
	d := new(draw)
	told := map[string]int{}
	for range 1500 {
		s := someSailing(d)
		for range 8 {
			id := 1 + d.n(30)
			at := slices.IndexFunc(s.Bookings, func(b api.Booking) bool { return b.Id == id && b.State != api.StateGone })
			var b api.Booking
			if at >= 0 {
				b = s.Bookings[at]
			}
			name, do, want, e := step(d, s, b)
			if at < 0 {
				e = api.ErrNone
			}
			told[fmt.Sprint(name, e)]++
			wants(t, fmt.Sprint(name, " of ", id), do, s, id, want, e)
			next, f := do(s, id)
			if f != api.OK {
				continue
			}
			if e := stock.Check(next); e != api.OK {
				t.Fatalf("%v is not right: %d", next, e)
			}
			s = next
		}
		if t.Failed() {
			return
		}
	}
	for _, what := range []string{"Sure0", "Sure4", "Sure5", "Pay0", "Pay3", "Pay4", "Cancel0", "Cancel4", "Move0", "Move3", "Move4", "Move6", "Move9"} {
		if told[what] < 10 {
			t.Errorf("%s came %d times alone", what, told[what])
		}
	}
}

// lists that a value has, at whatever depth.
func lists(v reflect.Value, see func(reflect.Value)) {
	switch v.Kind() {
	case reflect.Struct:
		for i := range v.NumField() {
			lists(v.Field(i), see)
		}
	case reflect.Slice:
		see(v)
		for i := range v.Len() {
			lists(v.Index(i), see)
		}
	}
}

// where the lists of some sailings lie: how many bytes lie in two of them.
func where(l ...api.Sailing) int {
	met := map[uintptr]int{}
	for _, s := range l {
		lists(reflect.ValueOf(s), func(v reflect.Value) {
			for i := range uintptr(v.Cap()) * v.Type().Elem().Size() {
				met[v.Pointer()+i]++
			}
		})
	}
	twice := 0
	for _, n := range met {
		if n > 1 {
			twice++
		}
	}
	return twice
}

// seen: all that lies in a sailing's lists, the room behind them too.
func seen(s api.Sailing) string {
	out := ""
	lists(reflect.ValueOf(s), func(v reflect.Value) { out += fmt.Sprint(v.Slice(0, v.Cap())) })
	return out
}

// spare: a sailing whose lists have room behind them, with something there.
func spare() api.Sailing {
	s := busy()
	s.Bookings = append(s.Bookings, api.Booking{Id: 77})[:7]
	for i := range s.Bookings {
		b := &s.Bookings[i]
		b.Folio = append(b.Folio, api.Entry{Day: 77}, api.Entry{Day: 77}, api.Entry{Day: 77})[:len(b.Folio)]
	}
	s.Ship.Categories = append(s.Ship.Categories, api.Category{Name: "77"})[:4]
	s.Ship.Categories[0].Higher = []int{1, 2, 77}[:2]
	s.Ship.Cabins = append(s.Ship.Cabins, api.Cabin{Name: "77"})[:5]
	s.Fares.Leg = append(s.Fares.Leg, []int{77})[:4]
	s.Fares.Leg[0] = append(s.Fares.Leg[0], 77)[:4]
	s.Fares.Bands = append(s.Fares.Bands, api.Band{Days: 77})[:3]
	return s
}

// TestP2: what is handed in, with the room behind it, stays as it was; an answer is new memory.
func TestP2(t *testing.T) {
	for _, c := range []struct {
		name string
		do   one
		id   int
	}{{"Sure", change.Sure, 11}, {"Pay", pay(7), 10}, {"Cancel", change.Cancel, 10}, {"Cancel an option", change.Cancel, 13}, {"Move", move(4), 10}} {
		s := spare()
		was := seen(s)
		next, e := c.do(s, c.id)
		if e != api.OK {
			t.Fatalf("%s: %d", c.name, e)
		}
		if seen(s) != was {
			t.Errorf("%s: what was handed in is %v", c.name, s)
		}
		if n := where(s, next); n != 0 {
			t.Errorf("%s: %d bytes are shared", c.name, n)
		}
		now := fmt.Sprint(next)
		s.Bookings[0].Folio[0].Amount, s.Bookings[1].Cabin, s.Ship.Cabins[0].Name, s.Fares.Leg[1][1], s.Ship.Categories[0].Higher[0], s.Fares.Bands[0].Days = 1, 9, "", -1, 7, 9
		if fmt.Sprint(next) != now {
			t.Errorf("%s: a later change is seen: %v", c.name, next)
		}
	}
}

// TestP3: the same each time, whatever was asked between.
func TestP3(t *testing.T) {
	for range 50 {
		b := busy().Bookings
		wants(t, "Sure", change.Sure, busy(), 11, sure(b[1]), api.OK)
		wants(t, "Pay", pay(400), busy(), 10, with(b[0], fare(2, 440), paid(3, 40), paid(5, 400)), api.OK)
		wants(t, "Cancel", change.Cancel, busy(), 11, with(gone(b[1]), fare(4, 289), back(5, -289)), api.OK)
		wants(t, "Move", move(3), busy(), 10, in(3, b[0]), api.OK)
		wants(t, "Move", move(5), busy(), 10, api.Booking{}, api.ErrRange)
	}
}
