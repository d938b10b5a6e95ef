package parse

import "madrigal/api"

// Same reports whether two trees are equal, but for places.
func Same(a, b api.Node) bool {
	if a.Kind != b.Kind || a.N != b.N || a.S != b.S || len(a.L) != len(b.L) {
		return false
	}
	for i := range a.L {
		if !Same(a.L[i], b.L[i]) {
			return false
		}
	}
	return true
}

// Bare returns a tree without places.
func Bare(n api.Node) api.Node {
	return rebuilt(n, func(x *api.Node) { x.At, x.End = 0, 0 })
}

// rebuilt returns a tree in new memory, each node of which was changed.
func rebuilt(n api.Node, change func(*api.Node)) api.Node {
	l := make([]api.Node, len(n.L))
	for i := range n.L {
		l[i] = rebuilt(n.L[i], change)
	}
	n.L = l
	change(&n)
	return n
}

// Size returns how many nodes a tree has, and how deep it is.
func Size(n api.Node) (int, int) {
	nodes, deep := 1, 0
	for _, x := range n.L {
		inner, below := Size(x)
		nodes += inner
		deep = max(deep, below)
	}
	return nodes, deep + 1
}

// withinLimits reports whether a tree is one that can be read, as far as its size tells. It does not count on behind a limit: where much is shared, there can be far more nodes than tokens.
func withinLimits(n api.Node) bool {
	left := api.MaxTree
	var fits func(n api.Node, deep int) bool
	fits = func(n api.Node, deep int) bool {
		left--
		if left < 0 || deep > api.MaxUnder || len(n.S) > api.MaxText {
			return false
		}
		for _, x := range n.L {
			if !fits(x, deep+1) {
				return false
			}
		}
		return true
	}
	return fits(n, 1)
}

// Around returns the way to the innermost node that has a byte.
func Around(n api.Node, at int) ([]int, bool) {
	if !has(n, at) {
		return nil, false
	}
	var way []int
	for next := 0; next < len(n.L); next++ {
		if has(n.L[next], at) {
			way = append(way, next)
			n, next = n.L[next], -1
		}
	}
	return way, true
}

func has(n api.Node, at int) bool { return n.At <= at && at < n.End }
