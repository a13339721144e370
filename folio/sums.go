package folio

import (
	"iter"

	"taffrail/api"
)

// every entry counts.
func every(api.Entry) bool { return true }

// sums of the entries that count: at each of them the sum of all up to it.
func sums(l []api.Entry, counts func(api.Entry) bool) iter.Seq[int] {
	return func(yield func(int) bool) {
		upTo := 0
		for _, x := range l {
			if !counts(x) {
				continue
			}
			upTo += x.Amount
			if !yield(upTo) {
				return
			}
		}
	}
}

// sum of the entries that count.
func sum(l []api.Entry, counts func(api.Entry) bool) int {
	last := 0
	for upTo := range sums(l, counts) {
		last = upTo
	}
	return last
}
