package desk_test

import (
	"fmt"
	"math"
	"slices"
	"testing"

	"taffrail/api"
	"taffrail/code"
	"taffrail/desk"
)

// bytesOf a request that is right.
func bytesOf(t *testing.T, a api.Ask) string {
	t.Helper()
	s, e := code.Encode(a)
	if e != api.OK {
		t.Fatalf("%v is wrong: %d", a, e)
	}
	return s
}

// script: requests of each kind, some of which are refused.
func script() []api.Ask {
	return []api.Ask{
		askNamed(9, 2, 7, o4, 1, 3, 0), askPromise(2, 1, 3, inside, 12), askPay(40000, 7, 30), askNamed(4, 1, 7, i2, 0, 1, 0),
		askMove(300, 7, s2), askSure(6, 4), askDay(7, 30), askCancel(8, 7), askPromise(1, 2, 20, suite, 0), askPromise(65535, 2, 21, suite, 0), askClose(11), askClose(12),
	}
}

// did: the log of some requests, done one by one, and the sailing then.
func did(t *testing.T, first api.Sailing, l ...api.Ask) (api.Log, api.Sailing) {
	t.Helper()
	log := api.Log{Written: len(l)}
	for _, a := range l {
		next, answer, e := desk.Do(first, a)
		if e != api.OK {
			t.Fatalf("%v: %d", a, e)
		}
		first, log.Done = next, append(log.Done, api.Done{Ask: a, Answer: answer})
	}
	return log, first
}

// written: a log of which so many are there for good.
func written(n int, l api.Log) api.Log {
	return api.Log{Done: slices.Clone(l.Done), Written: n}
}

// opens holds what Open answers.
func opens(t *testing.T, what string, first api.Sailing, l api.Log, want api.Sailing, e api.Errno) {
	t.Helper()
	s, f := desk.Open(first, l)
	if !same(s, want) || f != e || e != api.OK && !isZero(s) {
		t.Errorf("%s: Open of %v is %v, %d, not %v, %d", what, l, s, f, want, e)
	}
}

// steps holds what Step answers.
func steps(t *testing.T, what string, first api.Sailing, l api.Log, bytes string, want api.Log, answer api.Answer, e api.Errno) {
	t.Helper()
	next, said, f := desk.Step(first, l, bytes)
	if !same(next, want) || said != answer || f != e || e != api.OK && (!isZero(next) || !isZero(said)) {
		t.Errorf("%s: Step of %v and %q is %v, %v, %d, not %v, %v, %d", what, l, bytes, next, said, f, want, answer, e)
	}
}

// TestM2Done: requests that come one by one are done, and lie behind one another, all written.
func TestM2Done(t *testing.T) {
	all, _ := did(t, packet(), script()...)
	for n, d := range all.Done {
		l, s := did(t, packet(), script()[:n]...)
		opens(t, "ahead of it", packet(), l, s, api.OK)
		for w := range n + 1 {
			opens(t, "written in part", packet(), written(w, l), s, api.OK)
			steps(t, "it comes", packet(), written(w, l), bytesOf(t, d.Ask), api.Log{Done: all.Done[:n+1], Written: n + 1}, d.Answer, api.OK)
		}
	}
	met := map[api.Errno]int{}
	for _, d := range all.Done {
		met[d.Answer.Errno]++
	}
	if met[api.OK] < 5 || len(met) < 4 {
		t.Errorf("the answers are %v", met)
	}
}

// TestM2Again: a request that comes again is answered as it was; another one of its Number is not done.
func TestM2Again(t *testing.T) {
	l, _ := did(t, packet(), script()...)
	for w := range len(l.Done) + 1 {
		l := written(w, l)
		for _, d := range l.Done {
			steps(t, "again", packet(), l, bytesOf(t, d.Ask), l, d.Answer, api.OK)
			for _, other := range append(script(), askPay(1, 7, 31), askNamed(1, 2, 7, o4, 1, 3, 1), askLevel(askPromise(1, 1, 3, inside, 12)), askNamed(1, 1, 99, i2, 0, 1, 0)) {
				other.Number = d.Ask.Number
				if other != d.Ask {
					steps(t, "another one", packet(), l, bytesOf(t, other), l, api.Answer{Errno: api.ErrTwice}, api.OK)
				}
			}
		}
	}
}

// TestM2Bytes: bytes that are no request are answered with what chapter 12 says, and the log stays.
func TestM2Bytes(t *testing.T) {
	all, _ := did(t, packet(), script()...)
	for _, l := range []api.Log{{}, all, written(0, all), written(5, all)} {
		for bytes, want := range map[string]api.Errno{
			"":                         api.ErrForm,
			"x":                        api.ErrForm,
			"\x00\x00\x01":             api.ErrForm,
			"\x09\x00\x63":             api.ErrForm,
			"\x08\x00":                 api.ErrForm,
			"\x08\x00\x0b\x00":         api.ErrForm,
			"\x08\x00\x00":             api.ErrRange,
			"\x03\x00\x63\xff\xff\xff": api.ErrRange,
			"\x03\x00\x09\x0f\x42\x40": api.ErrRange,
			"\x04\x00\x63\x00\x00\x07\xff\xff\xff\xff":                 api.ErrRange,
			"\x01\x00\x63\x00\x00\x63\x01\x00\x00\x00\x01\x02\x00\x00": api.ErrForm,
		} {
			steps(t, "bytes", packet(), l, bytes, l, api.Answer{Errno: want}, api.OK)
		}
	}
}

// TestM2Refused: a request that is refused is kept, too; what is answered of it stays so, whatever comes then.
func TestM2Refused(t *testing.T) {
	no, sold := askPay(2, 7, 5), askNamed(1, 2, 7, o4, 1, 3, 0)
	l := api.Log{Done: []api.Done{{Ask: no, Answer: api.Answer{Errno: api.ErrNone}}}, Written: 1}
	steps(t, "refused", packet(), api.Log{}, bytesOf(t, no), l, api.Answer{Errno: api.ErrNone}, api.OK)
	next := api.Log{Done: append(slices.Clone(l.Done), api.Done{Ask: sold, Answer: api.Answer{Owed: 200}}), Written: 2}
	steps(t, "sold", packet(), l, bytesOf(t, sold), next, api.Answer{Owed: 200}, api.OK)
	steps(t, "refused again", packet(), next, bytesOf(t, no), next, api.Answer{Errno: api.ErrNone}, api.OK)
	opens(t, "behind it", packet(), next, packet(guests(2, 7, o4, 1, 3, fee(10, 200))), api.OK)
}

// days: a log of so many requests, each of which turns the day.
func days(t *testing.T, n int) (api.Log, api.Sailing) {
	t.Helper()
	var l []api.Ask
	for i := range n {
		l = append(l, askDay(500+i, 11+i))
	}
	return did(t, packet(), l...)
}

// TestM2Most: as many requests as there may be, and one more.
func TestM2Most(t *testing.T) {
	most, then := days(t, 30)
	few := written(29, most)
	few.Done = few.Done[:29]
	last := bytesOf(t, askDay(529, 40))
	opens(t, "the most", packet(), most, then, api.OK)
	steps(t, "the last one", packet(), few, last, most, api.Answer{}, api.OK)
	for w := range 31 {
		l := written(w, most)
		opens(t, "the most, written in part", packet(), l, then, api.OK)
		steps(t, "one too many", packet(), l, bytesOf(t, askDay(1, 99)), api.Log{}, api.Answer{}, api.ErrMany)
		steps(t, "one too many, that would be refused", packet(), l, bytesOf(t, askDay(1, 1)), api.Log{}, api.Answer{}, api.ErrMany)
		steps(t, "again", packet(), l, last, l, api.Answer{}, api.OK)
		steps(t, "another one of a Number", packet(), l, bytesOf(t, askDay(500, 99)), l, api.Answer{Errno: api.ErrTwice}, api.OK)
		steps(t, "no request", packet(), l, "\x07\x00", l, api.Answer{Errno: api.ErrForm}, api.OK)
	}
	more, _ := days(t, 31)
	for _, bytes := range []string{"", last, bytesOf(t, askDay(1, 99))} {
		steps(t, "too many are there", packet(), more, bytes, api.Log{}, api.Answer{}, api.ErrMany)
	}
	opens(t, "too many are there", packet(), more, api.Sailing{}, api.ErrMany)
}

// fault of a log and its first sailing.
type fault struct {
	name  string
	want  api.Errno
	spoil func(first *api.Sailing, l *api.Log)
}

// faults in the order in which they are told: of a first sailing and a log of the script.
func faults() []fault {
	of := func(i int, how func(d *api.Done)) func(*api.Sailing, *api.Log) {
		return func(_ *api.Sailing, l *api.Log) { how(&l.Done[i]) }
	}
	l := []fault{
		{"the first sailing", api.ErrKind, func(s *api.Sailing, _ *api.Log) { s.Bookings = make([]api.Booking, 1) }},
		{"too many", api.ErrMany, func(_ *api.Sailing, l *api.Log) { l.Done = append(l.Done, make([]api.Done, 31-len(l.Done))...) }},
		{"written below 0", api.ErrRange, func(_ *api.Sailing, l *api.Log) { l.Written = -1 }},
		{"written more than there are", api.ErrRange, func(_ *api.Sailing, l *api.Log) { l.Written = len(l.Done) + 1 }},
	}
	for _, i := range []int{1, 3, 8, 11} {
		l = append(l,
			fault{fmt.Sprint("no kind at ", i), api.ErrKind, of(i, func(d *api.Done) { d.Ask.Kind = 9 })},
			fault{fmt.Sprint("no Number at ", i), api.ErrRange, of(i, func(d *api.Done) { d.Ask.Number = 0 })},
			fault{fmt.Sprint("what its kind does not name at ", i), api.ErrForm, of(i, func(d *api.Done) { d.Ask.Span.From, d.Ask.Category, d.Ask.Amount = 1, 1, 1 })},
			fault{fmt.Sprint("a Number twice at ", i), api.ErrTwice, of(i, func(d *api.Done) { d.Ask.Number = script()[0].Number })},
			fault{fmt.Sprint("another errno at ", i), api.ErrState, of(i, func(d *api.Done) { d.Answer.Errno += 20 })},
			fault{fmt.Sprint("another amount at ", i), api.ErrState, of(i, func(d *api.Done) { d.Answer.Owed-- })},
		)
	}
	return l
}

// tells: what Open says, Step says of whatever bytes.
func tells(t *testing.T, what string, first api.Sailing, l api.Log, want api.Errno) {
	t.Helper()
	opens(t, what, first, l, api.Sailing{}, want)
	for _, a := range []api.Ask{script()[0], script()[11], askDay(99, 31)} {
		steps(t, what, first, l, bytesOf(t, a), api.Log{}, api.Answer{}, want)
	}
	steps(t, what, first, l, "", api.Log{}, api.Answer{}, want)
	steps(t, what, first, l, "\x08\x00\x00", api.Log{}, api.Answer{}, want)
}

// TestM2Faults: one by one, and in twos, of which the one that is told first tells.
func TestM2Faults(t *testing.T) {
	all, _ := did(t, packet(), script()...)
	for i, f := range faults() {
		for _, g := range faults()[i:] {
			first, l := packet(), written(5, all)
			g.spoil(&first, &l)
			f.spoil(&first, &l)
			tells(t, f.name+", "+g.name, first, l, f.want)
		}
	}
}

// TestM2Other: a log of another first sailing is none of this one, unless its answers are the same.
func TestM2Other(t *testing.T) {
	l, then := did(t, packet(), script()...)
	dear, late, taken := packet(), on(11, packet()), packet(guests(1, 50, o4, 0, 3))
	dear.Fares.Leg[outside][2]++
	for name, first := range map[string]api.Sailing{"dearer": dear, "without room": taken, "closed": closed(packet())} {
		tells(t, name, first, l, api.ErrState)
	}
	_, laterThen := did(t, late, script()...)
	opens(t, "a day later", late, l, laterThen, api.OK)
	empty, some := api.Log{}, packet(guests(1, 50, o4, 0, 3))
	opens(t, "nothing was asked", some, empty, some, api.OK)
	opens(t, "nothing was asked of a closed one", closed(some), empty, closed(some), api.OK)
	l.Done[0], l.Done[1] = l.Done[1], l.Done[0]
	opens(t, "two that don't matter to one another, the other way round", packet(), l, then, api.OK)
	l.Done[1], l.Done[2] = l.Done[2], l.Done[1]
	tells(t, "paid ahead of it", packet(), l, api.ErrState)
}

// TestM2Numbers: a Number of one ahead is not there twice, even with the very same request and answer; of one behind it is told behind it.
func TestM2Numbers(t *testing.T) {
	twice := api.Log{Done: slices.Repeat([]api.Done{{Ask: askSure(5, 1), Answer: api.Answer{Errno: api.ErrNone}}}, 2)}
	tells(t, "the very same", packet(), twice, api.ErrTwice)
	twice.Done[1].Answer = api.Answer{}
	tells(t, "with another answer", packet(), twice, api.ErrTwice)
	twice.Done[0].Answer = api.Answer{}
	tells(t, "behind another answer", packet(), twice, api.ErrState)
	apart, _ := did(t, packet(), askSure(5, 1), askSure(6, 1), askSure(7, 1))
	apart.Done[2].Ask.Number = 5
	tells(t, "apart", packet(), apart, api.ErrTwice)
	apart.Done[1].Ask.Kind = 0
	tells(t, "apart, behind no kind", packet(), apart, api.ErrKind)
}

// TestM3: all lengths, all that are written, and how many are kept, at the edges and beyond.
func TestM3(t *testing.T) {
	for n := range 41 {
		var done []api.Done
		for i := range n {
			done = append(done, api.Done{Ask: api.Ask{Number: i % 7, Kind: i}, Answer: api.Answer{Owed: -i}})
		}
		for _, w := range []int{math.MinInt, -2, -1, 0, 1, 2, n / 2, n - 1, n, n + 1, n + 2, math.MaxInt} {
			for _, keep := range []int{math.MinInt, -2, -1, 0, 1, 2, 3, n/2 - 1, n / 2, n - w - 1, n - w, n - w + 1, n, n + 1, math.MaxInt - 1, math.MaxInt} {
				want, e := api.Log{}, api.ErrRange
				if w >= 0 && w <= n && keep >= 0 {
					left := w
					for k := 0; k < keep && left < n; k++ {
						left++
					}
					want, e = api.Log{Done: done[:left], Written: left}, api.OK
				}
				l, f := desk.Crash(api.Log{Done: done, Written: w}, keep)
				if !same(l, want) || f != e || e != api.OK && !isZero(l) {
					t.Fatalf("%d of %d, %d kept: %v, %d, not %v, %d", w, n, keep, l, f, want, e)
				}
			}
		}
	}
}

// TestM4: behind a crash what is written is there; what is lost and comes again is answered as it was.
func TestM4(t *testing.T) {
	all, then := did(t, packet(), script()...)
	for w := range len(all.Done) + 1 {
		for keep := range len(all.Done) - w + 2 {
			l, e := desk.Crash(written(w, all), keep)
			if e != api.OK || len(l.Done) < w || !slices.Equal(l.Done, all.Done[:len(l.Done)]) {
				t.Fatalf("%d, %d: %v, %d", w, keep, l, e)
			}
			for i, d := range all.Done {
				n := max(len(l.Done), i+1)
				steps(t, "again", packet(), l, bytesOf(t, d.Ask), api.Log{Done: all.Done[:n], Written: n}, d.Answer, api.OK)
				l = api.Log{Done: all.Done[:n], Written: n}
			}
			opens(t, "behind all", packet(), l, then, api.OK)
			if safe, e := desk.Crash(l, 0); !same(safe, all) || e != api.OK {
				t.Fatalf("what was answered is lost: %v, %d", safe, e)
			}
		}
	}
}
