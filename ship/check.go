package ship

import "taffrail/api"

// checkSize: what is to be seen ahead of any category or cabin.
func checkSize(s api.Ship) api.Errno {
	if !within(s.Legs, 1, api.MaxLegs) || !within(s.Souls, 1, api.MaxSouls) {
		return api.ErrRange
	}
	if len(s.Categories) > api.MaxCategories || len(s.Cabins) > api.MaxCabins {
		return api.ErrMany
	}
	if len(s.Categories) == 0 || len(s.Cabins) == 0 {
		return api.ErrNone
	}
	return api.OK
}

func checkCategories(l []api.Category) api.Errno {
	met := map[string]struct{}{}
	for _, c := range l {
		if e := meetName(met, c.Name); e != api.OK {
			return e
		}
		if e := checkHigher(c.Higher, len(l)); e != api.OK {
			return e
		}
	}
	return api.OK
}

// checkHigher of one of n categories; that one stands in its own is not told here, but behind all categories.
func checkHigher(higher []int, n int) api.Errno {
	met := map[int]struct{}{}
	for _, h := range higher {
		if !within(h, 0, n-1) {
			return api.ErrRange
		}
		if _, ok := met[h]; ok {
			return api.ErrTwice
		}
		met[h] = struct{}{}
	}
	return api.OK
}

// checkCabins of a ship of n categories.
func checkCabins(l []api.Cabin, n int) api.Errno {
	met := map[string]struct{}{}
	for _, c := range l {
		if e := meetName(met, c.Name); e != api.OK {
			return e
		}
		if !within(c.Category, 0, n-1) || !within(c.Berths, 1, api.MaxBerths) {
			return api.ErrRange
		}
	}
	return api.OK
}

// meetName checks a name against those that were met, and lays it to them.
func meetName(met map[string]struct{}, name string) api.Errno {
	if !isName(name) {
		return api.ErrForm
	}
	if _, ok := met[name]; ok {
		return api.ErrTwice
	}
	met[name] = struct{}{}
	return api.OK
}

func isName(s string) bool {
	return within(len(s), 1, api.MaxName) && !has(len(s), func(i int) bool { return !isSign(s[i]) })
}

// isSign: may a name have that byte? (No sign is longer than a byte.)
func isSign(c byte) bool { return 'A' <= c && c <= 'Z' || '0' <= c && c <= '9' }
