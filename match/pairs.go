package match

import "taffrail/api"

// marks: right ones that were asked already.
type marks map[int]struct{}

func (m marks) has(i int) bool {
	_, ok := m[i]
	return ok
}

// nobody has a right one that is free.
const nobody = -1

// pairs of a graph: a matching, told by which left one has each right one.
type pairs struct {
	graph
	owner []int
}

func noPairs(g graph) pairs {
	owner := make([]int, g.right)
	for r := range owner {
		owner[r] = nobody
	}
	return pairs{g, owner}
}

// find a right one for a left one that has none: one that is free, or one whose owner finds another one. Each is asked but once: asked again, it would answer the same.
func (p pairs) find(left int, asked marks) bool {
	yields := func(r int) bool {
		if asked.has(r) || !p.has(api.Edge{Left: left, Right: r}) {
			return false
		}
		asked[r] = struct{}{}
		return p.owner[r] == nobody || p.find(p.owner[r], asked)
	}
	r := first(p.right, yields)
	if r == p.right {
		return false
	}
	p.owner[r] = left
	return true
}

// crowd of a left one that found none: with it, the owners of all that were asked. These have no other right ones than those, each of which has its owner: so they are one more than they have.
func (p pairs) crowd(left int, asked marks) []int {
	in := marks{left: {}}
	for r := range p.right {
		if asked.has(r) {
			in[p.owner[r]] = struct{}{}
		}
	}
	var l []int
	for i := range p.left {
		if in.has(i) {
			l = append(l, i)
		}
	}
	return l
}

// edges of a matching, rising by left.
func (p pairs) edges() []api.Edge {
	var l []api.Edge
	for i := range p.left {
		r := first(p.right, func(r int) bool { return p.owner[r] == i })
		if r < p.right {
			l = append(l, api.Edge{Left: i, Right: r})
		}
	}
	return l
}
