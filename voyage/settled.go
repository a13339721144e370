package voyage

import (
	"slices"

	"taffrail/api"
	"taffrail/match"
)

// settled: of a graph whose left ones can all be matched, the matching in which each of them, one by one, has the first right one with which all behind it still can. Edges are in order of the left one, then of the right one.
func settled(left, right int, edges []api.Edge) []api.Edge {
	l := edges
	for _, x := range edges {
		// Of a left one that is settled no other edge is there any more: with one of those it would have none.
		if rest := only(l, x); canMatch(left, right, rest) {
			l = rest
		}
	}
	return l
}

// only an edge of its left one, and all of the others, in a list of its own.
func only(l []api.Edge, x api.Edge) []api.Edge {
	return slices.DeleteFunc(slices.Clone(l), func(y api.Edge) bool { return y.Left == x.Left && y != x })
}

// canMatch all left ones?
func canMatch(left, right int, l []api.Edge) bool {
	lack, e := match.Lack(left, right, l)
	return e == api.OK && len(lack) == 0
}
