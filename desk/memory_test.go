package desk_test

import (
	"fmt"
	"math"
	"math/rand/v2"
	"reflect"
	"testing"

	"taffrail/api"
	"taffrail/desk"
)

// roomy: each list of a value gets room behind it, with the last one of it there, or a zero.
func roomy(v reflect.Value) {
	switch v.Kind() {
	case reflect.Struct:
		for i := range v.NumField() {
			roomy(v.Field(i))
		}
	case reflect.Slice:
		n := v.Len()
		l := reflect.MakeSlice(v.Type(), n, n+2)
		all := l.Slice(0, n+2)
		reflect.Copy(l, v)
		for i := range n {
			roomy(l.Index(i))
			all.Index(n).Set(v.Index(i))
		}
		v.Set(l)
	}
}

// spare: a sailing, all lists of which are roomy.
func spare() api.Sailing {
	s := packet(guests(2, 3, o4, 0, 2, fee(8, 120)), option(20, promise(2, 5, inside, none, fee(8, 120), paid(9, 20))))
	roomy(reflect.ValueOf(&s).Elem())
	return s
}

// spareLog: requests of the script to such a sailing, likewise.
func spareLog(t *testing.T, n int) api.Log {
	t.Helper()
	l, _ := did(t, spare(), script()[:n]...)
	roomy(reflect.ValueOf(&l).Elem())
	return l
}

// whole: all that lies in the lists of a value, the room behind them too.
func whole(x any) string {
	out := fmt.Sprint(x)
	v := reflect.ValueOf(x)
	switch v.Kind() {
	case reflect.Struct:
		for i := range v.NumField() {
			out += whole(v.Field(i).Interface())
		}
	case reflect.Slice:
		for i := range v.Cap() {
			out += whole(v.Slice(0, v.Cap()).Index(i).Interface())
		}
	}
	return out
}

// TestP2: what is handed in stays as it was, the room behind it too; an answer is new memory.
func TestP2(t *testing.T) {
	calls := map[string]func(s api.Sailing, l api.Log) (any, any, api.Errno){
		"Open": func(s api.Sailing, l api.Log) (any, any, api.Errno) {
			next, e := desk.Open(s, l)
			return next, 0, e
		},
		"Crash": func(_ api.Sailing, l api.Log) (any, any, api.Errno) {
			next, e := desk.Crash(l, 99)
			return next, 0, e
		},
		"Crash, and some are lost": func(_ api.Sailing, l api.Log) (any, any, api.Errno) {
			l.Written = 0
			next, e := desk.Crash(l, len(l.Done)/2)
			return next, 0, e
		},
	}
	for _, bytes := range []string{"x", bytesOf(t, askDay(99, 11)), bytesOf(t, askDay(99, 1)), bytesOf(t, script()[0]), bytesOf(t, askSure(script()[0].Number, 1))} {
		calls[fmt.Sprintf("Step of %q", bytes)] = func(s api.Sailing, l api.Log) (any, any, api.Errno) {
			next, answer, e := desk.Step(s, l, bytes)
			return next, answer, e
		}
	}
	for _, a := range append(script(), askSure(1, 5), askCancel(1, 3), askMove(1, 3, i3), askPay(1, 3, 1), askDay(1, 0)) {
		calls[fmt.Sprint("Do ", a)] = func(s api.Sailing, _ api.Log) (any, any, api.Errno) {
			next, answer, e := desk.Do(s, a)
			return next, answer, e
		}
	}
	for name, call := range calls {
		for _, n := range []int{0, 1, 2, 9, 12} {
			s, l := spare(), spareLog(t, n)
			next, answer, e := call(s, l)
			if whole(s) != whole(spare()) || whole(l) != whole(spareLog(t, n)) || e != api.OK {
				t.Errorf("%s, %d: what was handed in is %s, %s, %d", name, n, whole(s), whole(l), e)
			}
			if twice := where(s, l, next); twice != 0 {
				t.Errorf("%s, %d: %d bytes are shared", name, n, twice)
			}
			was := fmt.Sprint(next, answer)
			s.Bookings[0].Folio[0].Amount, s.Bookings[1].Id, s.Ship.Cabins[0].Name, s.Ship.Categories[0].Higher[0], s.Fares.Leg[1][1], s.Fares.Bands[0].Part = 1, 1, "", 7, -1, -1
			if n > 0 {
				l.Done[0] = api.Done{}
			}
			if fmt.Sprint(next, answer) != was {
				t.Errorf("%s, %d: a later change is seen: %v", name, n, next)
			}
		}
	}
}

// TestP3: the same each time, whatever was asked between.
func TestP3(t *testing.T) {
	l, then := did(t, packet(), script()...)
	for range 30 {
		for i, a := range script() {
			opens(t, "again", packet(), l, then, api.OK)
			steps(t, "again", packet(), written(3, l), bytesOf(t, a), written(3, l), l.Done[i].Answer, api.OK)
			refuses(t, "again", packet(), api.Ask{}, api.ErrKind)
			steps(t, "again", packet(), api.Log{Written: 1}, "", api.Log{}, api.Answer{}, api.ErrRange)
		}
		if again, s := did(t, packet(), script()...); !same(again, l) || !same(s, then) {
			t.Fatalf("it is %v, %v", again, s)
		}
	}
}

// wild number.
func wild(r *rand.Rand) int {
	return []int{math.MinInt, -1, 0, 1, 2, 3, 7, 16, 255, 256, 65535, 65536, 1 << 40, math.MaxInt}[r.IntN(14)]
}

// spoil one of the numbers that a value has.
func spoil(r *rand.Rand, v reflect.Value) {
	switch v.Kind() {
	case reflect.Int:
		v.SetInt(int64(wild(r)))
	case reflect.Bool:
		v.SetBool(!v.Bool())
	case reflect.String:
		v.SetString([]string{"", "\xff", "123456789"}[r.IntN(3)])
	case reflect.Struct:
		spoil(r, v.Field(r.IntN(v.NumField())))
	case reflect.Slice:
		if n := v.Len(); n > 0 && r.IntN(5) > 0 {
			spoil(r, v.Index(r.IntN(n)))
			return
		}
		v.Set(reflect.MakeSlice(v.Type(), r.IntN(40), 40))
	}
}

// TestP1: whatever is handed in, each call ends; with an error nothing else comes.
func TestP1(t *testing.T) {
	r := rand.New(rand.NewPCG(14, 15))
	l, _ := did(t, packet(), script()...)
	wrong := 0
	for range 4000 {
		s, log, a := packet(guests(2, 3, o4, 0, 2, fee(8, 120)), option(20, promise(2, 5, inside, none, fee(8, 120)))), written(r.IntN(13), l), script()[r.IntN(12)]
		if r.IntN(2) == 0 {
			s = packet()
		}
		bytes := bytesOf(t, a)
		for range r.IntN(3) {
			spoil(r, reflect.ValueOf([]any{&s, &log, &a}[r.IntN(3)]).Elem())
			bytes = bytes[:r.IntN(len(bytes)+1)] + string(byte(wild(r))) + bytes[r.IntN(len(bytes)+1):]
		}
		next, answer, e := desk.Do(s, a)
		opened, f := desk.Open(s, log)
		stepped, said, g := desk.Step(s, log, bytes)
		crashed, h := desk.Crash(log, wild(r))
		for _, x := range []struct {
			e api.Errno
			l []any
		}{{e, []any{next, answer}}, {f, []any{opened}}, {g, []any{stepped, said}}, {h, []any{crashed}}} {
			if x.e == api.OK {
				continue
			}
			wrong++
			if !isZero(x.l[0]) || len(x.l) > 1 && !isZero(x.l[1]) {
				t.Fatalf("with %d comes %v", x.e, x.l)
			}
		}
		if f != api.OK && g != f {
			t.Fatalf("Open says %d, Step %d", f, g)
		}
	}
	if wrong < 2000 {
		t.Errorf("only %d were wrong", wrong)
	}
}
