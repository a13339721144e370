package match

import "taffrail/api"

// graph that was checked: how many there are on each side, and the edges that were met.
type graph struct {
	left, right int
	met         map[api.Edge]struct{}
}

// read a graph: Check of it is that this goes well.
func read(left, right int, l []api.Edge) (graph, api.Errno) {
	if !within(left, 0, api.MaxSide) || !within(right, 0, api.MaxSide) {
		return graph{}, api.ErrRange
	}
	g := graph{left, right, map[api.Edge]struct{}{}}
	for _, x := range l {
		if !within(x.Left, 0, left-1) || !within(x.Right, 0, right-1) {
			return graph{}, api.ErrRange
		}
		if g.has(x) {
			return graph{}, api.ErrTwice
		}
		g.met[x] = struct{}{}
	}
	return g, api.OK
}

func (g graph) has(x api.Edge) bool {
	_, ok := g.met[x]
	return ok
}
