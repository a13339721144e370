// Package ship: ships: see doc/02-ship.md.
package ship

import "taffrail/api"

// Check a ship.
func Check(s api.Ship) api.Errno {
	if e := checkSize(s); e != api.OK {
		return e
	}
	if e := checkCategories(s.Categories); e != api.OK {
		return e
	}
	if inCircle(s.Categories) {
		return api.ErrState
	}
	return checkCabins(s.Cabins, len(s.Categories))
}

// Serves: does one?
func Serves(s api.Ship, category, other int) (bool, api.Errno) {
	if e := Check(s); e != api.OK {
		return false, e
	}
	n := len(s.Categories)
	if !within(category, 0, n-1) || !within(other, 0, n-1) {
		return false, api.ErrRange
	}
	return whoServes(s.Categories)[category][other], api.OK
}

// Order of categories.
func Order(s api.Ship) ([]int, api.Errno) {
	if e := Check(s); e != api.OK {
		return nil, e
	}
	n := len(s.Categories)
	serves := whoServes(s.Categories)
	stands := map[int]struct{}{}
	waits := func(c int) bool {
		_, ok := stands[c]
		return !ok
	}
	mayStand := func(c int) bool {
		return waits(c) && !has(n, func(o int) bool { return o != c && waits(o) && serves[o][c] })
	}
	order := make([]int, 0, n)
	for next := first(n, mayStand); next < n; next = first(n, mayStand) {
		stands[next] = struct{}{}
		order = append(order, next)
	}
	return order, api.OK
}

// first: the least number below n that is looked for; n, if there is none.
func first(n int, is func(int) bool) int {
	for i := range n {
		if is(i) {
			return i
		}
	}
	return n
}

// has: is there a number below n that is looked for?
func has(n int, is func(int) bool) bool { return first(n, is) < n }

// within: is x from least to most?
func within(x, least, most int) bool { return least <= x && x <= most }
