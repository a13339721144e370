package fare

import (
	"slices"

	"taffrail/api"
)

// checkPrice: fares, then a price that a part is asked of.
func checkPrice(f api.Fares, categories, legs, price int) api.Errno {
	if e := Check(f, categories, legs); e != api.OK {
		return e
	}
	if !within(price, 0, api.MaxAmount) {
		return api.ErrRange
	}
	return api.OK
}

// checkLegs asks for the form of all ahead of any number: a wrong form is told first, wherever it is.
func checkLegs(l [][]int, categories, legs int) api.Errno {
	if len(l) != categories || slices.ContainsFunc(l, func(c []int) bool { return len(c) != legs }) {
		return api.ErrForm
	}
	wrong := func(n int) bool { return !within(n, 0, api.MaxFare) }
	if slices.ContainsFunc(l, func(c []int) bool { return slices.ContainsFunc(c, wrong) }) {
		return api.ErrRange
	}
	return api.OK
}

func checkBands(l []api.Band) api.Errno {
	if len(l) > api.MaxBands {
		return api.ErrMany
	}
	ahead := api.Band{Days: -1, Part: 100} // any band may come behind it
	for _, b := range l {
		if !within(b.Days, 0, api.MaxDays) || !isPart(b.Part) {
			return api.ErrRange
		}
		if b.Days <= ahead.Days || b.Part > ahead.Part {
			return api.ErrState
		}
		ahead = b
	}
	return api.OK
}

// isPart: hundredths of no more than the whole.
func isPart(n int) bool { return within(n, 0, 100) }

func within(n, least, most int) bool { return least <= n && n <= most }
