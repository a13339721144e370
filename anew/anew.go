// Package anew: sailings in memory of their own, for the calls that answer one that differs from what they were handed.
package anew

import (
	"taffrail/api"
	"taffrail/stock"
)

// Sailing that is another one in what a function does to it, if it is right then. What is handed in is only read, so the function is handed a copy.
func Sailing(s api.Sailing, how func(next *api.Sailing) api.Errno) (api.Sailing, api.Errno) {
	next := Copy(s)
	if e := how(&next); e != api.OK {
		return api.Sailing{}, e
	}
	if e := stock.Check(next); e != api.OK {
		return api.Sailing{}, e
	}
	return next, api.OK
}

// Copy of a sailing, right or not: no list of it, at whatever depth, shares memory with another one.
func Copy(s api.Sailing) api.Sailing {
	s.Ship.Categories = each(s.Ship.Categories, func(c api.Category) api.Category {
		c.Higher = list(c.Higher)
		return c
	})
	s.Ship.Cabins = list(s.Ship.Cabins)
	s.Fares.Leg = each(s.Fares.Leg, list[int])
	s.Fares.Bands = list(s.Fares.Bands)
	s.Bookings = each(s.Bookings, func(b api.Booking) api.Booking {
		b.Folio = list(b.Folio)
		return b
	})
	return s
}

// list of its own; an empty one keeps nothing of what lay behind it.
func list[T any](l []T) []T { return append([]T(nil), l...) }

// each of a list, as a function makes it, in a list of its own.
func each[T any](l []T, one func(T) T) []T {
	out := make([]T, 0, len(l))
	for _, x := range l {
		out = append(out, one(x))
	}
	return out
}
