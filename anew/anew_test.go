package anew_test

import (
	"fmt"
	"reflect"
	"testing"

	"taffrail/anew"
	"taffrail/api"
)

// sailing of a small ship, with a list in every field that may have one.
func sailing() api.Sailing {
	return api.Sailing{
		Ship: api.Ship{Legs: 2, Souls: 9,
			Categories: []api.Category{{Name: "IN", Higher: []int{1}}, {Name: "OUT", Higher: []int{2}}, {Name: "SUITE"}},
			Cabins:     []api.Cabin{{Name: "I", Berths: 2}, {Name: "O", Category: 1, Berths: 2}, {Name: "S", Category: 2, Berths: 2}}},
		Fares:  api.Fares{Leg: [][]int{{1, 1}, {2, 2}, {3, 3}}, Bands: []api.Band{{Days: 1, Part: 50}, {Days: 2, Part: 40}}},
		Leaves: 9,
		Bookings: []api.Booking{
			{Id: 1, Kind: api.KindNamed, State: api.StateSure, Guests: 1, Span: api.Span{To: 1}, Folio: []api.Entry{{Kind: api.EntryFare, Amount: 1}}},
			{Id: 2, Kind: api.KindNamed, State: api.StateSure, Guests: 1, Span: api.Span{From: 1, To: 2}, Folio: []api.Entry{{Kind: api.EntryFare, Amount: 1}}},
			{Id: 3, Kind: api.KindPromise, State: api.StateSure, Guests: 1, Cabin: -1, Span: api.Span{To: 2}},
		},
	}
}

// lists that a value has, at whatever depth.
func lists(v reflect.Value, see func(reflect.Value)) {
	switch v.Kind() {
	case reflect.Struct:
		for i := range v.NumField() {
			lists(v.Field(i), see)
		}
	case reflect.Slice:
		see(v)
		for i := range v.Len() {
			lists(v.Index(i), see)
		}
	}
}

// where the lists of some sailings lie: how many bytes lie in two of them, and how many in all.
func where(l ...api.Sailing) (twice, all int) {
	met := map[uintptr]int{}
	for _, s := range l {
		lists(reflect.ValueOf(s), func(v reflect.Value) {
			for i := range uintptr(v.Cap()) * v.Type().Elem().Size() {
				met[v.Pointer()+i]++
			}
		})
	}
	for _, n := range met {
		if n > 1 {
			twice++
		}
	}
	return twice, len(met)
}

func TestSame(t *testing.T) {
	s := sailing()
	next, e := anew.Sailing(s, func(*api.Sailing) api.Errno { return api.OK })
	if fmt.Sprint(next) != fmt.Sprint(sailing()) || e != api.OK {
		t.Errorf("it is %v, %d", next, e)
	}
	if twice, all := where(s, next); twice != 0 || all == 0 {
		t.Errorf("%d bytes of %d are shared", twice, all)
	}
}

// TestCopy: a copy of what is not right, too.
func TestCopy(t *testing.T) {
	bad := sailing()
	bad.Day, bad.Bookings[0].Id, bad.Bookings[2].Guests = -1, 0, 99
	for _, s := range []api.Sailing{{}, sailing(), bad} {
		was := fmt.Sprint(s)
		next := anew.Copy(s)
		if fmt.Sprint(next) != was || fmt.Sprint(s) != was {
			t.Errorf("of %s it is %v, of %v", was, next, s)
		}
		if twice, _ := where(s, next); twice != 0 {
			t.Errorf("%d bytes are shared", twice)
		}
	}
}

// TestChanged: whatever is done to what comes, what is handed in stays.
func TestChanged(t *testing.T) {
	s := sailing()
	next, e := anew.Sailing(s, func(next *api.Sailing) api.Errno {
		next.Day = 3
		next.Ship.Categories[1].Higher[0] = 0
		next.Ship.Categories[0].Higher = nil
		next.Ship.Cabins[0].Berths = 4
		next.Fares.Leg[0][0] = 7
		next.Fares.Bands[0].Part = 77
		next.Bookings[0].Folio[0].Amount = 7
		next.Bookings = append(next.Bookings[:0], next.Bookings[0])
		return api.OK
	})
	if fmt.Sprint(s) != fmt.Sprint(sailing()) {
		t.Errorf("what was handed in is %v", s)
	}
	if len(next.Bookings) != 1 || next.Day != 3 || next.Fares.Leg[0][0] != 7 || e != api.OK {
		t.Errorf("what came is %v, %d", next, e)
	}
}

// TestShared: lists that are shared in what is handed in are not in what comes.
func TestShared(t *testing.T) {
	s := sailing()
	s.Fares.Leg[1] = s.Fares.Leg[0]
	s.Bookings[1].Folio = s.Bookings[0].Folio
	next, e := anew.Sailing(s, func(*api.Sailing) api.Errno { return api.OK })
	if twice, _ := where(next); twice != 0 || e != api.OK {
		t.Errorf("%d bytes are shared, %d", twice, e)
	}
}

// TestRefused: what may not come does not, and nothing else comes with why.
func TestRefused(t *testing.T) {
	for _, c := range []struct {
		name string
		how  func(next *api.Sailing) api.Errno
		want api.Errno
	}{
		{"by the function", func(next *api.Sailing) api.Errno { next.Day = 3; return api.ErrKind }, api.ErrKind},
		{"by the function, wrong besides", func(next *api.Sailing) api.Errno { next.Day = -1; return api.ErrKind }, api.ErrKind},
		{"not right", func(next *api.Sailing) api.Errno { next.Day = -1; return api.OK }, api.ErrRange},
		{"a cabin twice", func(next *api.Sailing) api.Errno { next.Bookings[0].Span.To = 2; return api.OK }, api.ErrTwice},
	} {
		if next, e := anew.Sailing(sailing(), c.how); !reflect.DeepEqual(next, api.Sailing{}) || e != c.want {
			t.Errorf("%s: %v, %d, not %d", c.name, next, e, c.want)
		}
	}
}
