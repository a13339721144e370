package code_test

import (
	"fmt"
	"math"
	"strings"
	"testing"

	"taffrail/api"
	"taffrail/code"
)

// part of a request: how it is set, and the most that it may be.
type part struct {
	name string
	set  func(a *api.Ask, n int)
	most int
}

func parts() []part {
	return []part{
		{"Id", func(a *api.Ask, n int) { a.Id = n }, 999999},
		{"Guests", func(a *api.Ask, n int) { a.Guests = n }, 255},
		{"Cabin", func(a *api.Ask, n int) { a.Cabin = n }, 255},
		{"Category", func(a *api.Ask, n int) { a.Category = n }, 255},
		{"From", func(a *api.Ask, n int) { a.Span.From = n }, 255},
		{"To", func(a *api.Ask, n int) { a.Span.To = n }, 255},
		{"Until", func(a *api.Ask, n int) { a.Until = n }, 65535},
		{"Amount", func(a *api.Ask, n int) { a.Amount = n }, 100000000},
	}
}

// names: what each kind names.
func names(kind int) string {
	switch kind {
	case api.AskNamed:
		return "Id Guests Level Cabin From To Until"
	case api.AskPromise:
		return "Id Guests Level Category Until"
	case api.AskSure, api.AskCancel:
		return "Id"
	case api.AskPay:
		return "Id Amount"
	case api.AskMove:
		return "Id Cabin"
	case api.AskDay:
		return "Until"
	}
	return ""
}

func (p part) isNamed(kind int) bool { return strings.Contains(names(kind), p.name) }

// checks holds what Check says, and that Encode says it too.
func checks(t *testing.T, what string, a api.Ask, want api.Errno) {
	t.Helper()
	if e := code.Check(a); e != want {
		t.Errorf("%s: Check of %v is %d, not %d", what, a, e, want)
	}
	if s, e := code.Encode(a); e != want || (s == "") != (want != api.OK) {
		t.Errorf("%s: Encode of %v is %q, %d, not %d", what, a, s, e, want)
	}
}

func TestL1Kind(t *testing.T) {
	for kind := -300; kind <= 300; kind++ {
		want := api.ErrKind
		if 1 <= kind && kind <= 8 {
			want = api.OK
		}
		checks(t, "alone", api.Ask{Number: 1, Kind: kind}, want)
	}
	for _, kind := range []int{math.MinInt, -1, 0, 9, 256, 257, math.MaxInt} {
		for _, a := range []api.Ask{{}, {Number: -1}, {Number: 65536}, {Number: 1, Level: true}, {Id: -1}, {Id: 1000000}} {
			a.Kind = kind
			checks(t, "wrong besides", a, api.ErrKind)
		}
	}
}

func TestL1Number(t *testing.T) {
	for kind := 1; kind <= 8; kind++ {
		for _, n := range []int{1, 2, 255, 256, 65534, 65535} {
			checks(t, "right", api.Ask{Number: n, Kind: kind}, api.OK)
		}
		for _, n := range []int{math.MinInt, -65535, -1, 0, 65536, 65537, math.MaxInt} {
			checks(t, "wrong", api.Ask{Number: n, Kind: kind}, api.ErrRange)
			checks(t, "ahead of what is not named", api.Ask{Number: n, Kind: kind, Id: 1, Level: true, Category: 1, Amount: 1}, api.ErrRange)
		}
	}
}

// TestL1Part: each part of each kind, at its edges and beyond them.
func TestL1Part(t *testing.T) {
	for kind := 1; kind <= 8; kind++ {
		for _, p := range parts() {
			for _, n := range []int{math.MinInt, -1, 0, 1, 2, p.most - 1, p.most, p.most + 1, p.most + 256, math.MaxInt} {
				a, want := api.Ask{Number: 7, Kind: kind}, api.OK
				p.set(&a, n)
				switch {
				case n == 0:
				case !p.isNamed(kind):
					want = api.ErrForm
				case n < 0 || n > p.most:
					want = api.ErrRange
				}
				checks(t, fmt.Sprint(p.name, " of ", n), a, want)
			}
		}
		want := api.ErrForm
		if kind == api.AskNamed || kind == api.AskPromise {
			want = api.OK
		}
		checks(t, "Level", api.Ask{Number: 7, Kind: kind, Level: true}, want)
	}
}

// TestL1Twos: of two parts that are wrong the one that is not named is told.
func TestL1Twos(t *testing.T) {
	for kind := 1; kind <= 8; kind++ {
		for _, p := range parts() {
			for _, q := range parts() {
				if p.name == q.name {
					continue
				}
				a, want := api.Ask{Number: 7, Kind: kind}, api.ErrRange
				p.set(&a, p.most+1)
				q.set(&a, -1)
				if !p.isNamed(kind) || !q.isNamed(kind) {
					want = api.ErrForm
				}
				checks(t, p.name+" and "+q.name, a, want)
				if a.Level = true; kind > api.AskPromise {
					want = api.ErrForm
				}
				checks(t, p.name+", "+q.name+" and Level", a, want)
			}
		}
	}
}

// TestL1Most: a request all of whose parts are the most that they may be.
func TestL1Most(t *testing.T) {
	for kind := 1; kind <= 8; kind++ {
		a := api.Ask{Number: 65535, Kind: kind, Level: kind <= api.AskPromise}
		for _, p := range parts() {
			if p.isNamed(kind) {
				p.set(&a, p.most)
			}
		}
		checks(t, "the most", a, api.OK)
	}
}
