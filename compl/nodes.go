package compl

import (
	"iter"
	"slices"

	"madrigal/api"
)

// node is a term. It is never changed, so that terms can share their parts; and it knows its size, so that what is too great is noticed where it is put together.
type node struct {
	kind, n     int
	args        []*node
	nodes, deep int
}

func variable(n int) *node { return &node{kind: api.KVar, n: n, nodes: 1, deep: 1} }

// variables returns the first so many variables.
func variables(many int) []*node {
	l := make([]*node, many)
	for n := range l {
		l[n] = variable(n)
	}
	return l
}

// operation puts a term together. It throws ErrLimit if that is no tree.
func operation(n int, args []*node) *node {
	x := &node{kind: api.KOp, n: n, args: args, nodes: 1, deep: 1}
	for _, y := range args {
		x.nodes += y.nodes
		x.deep = max(x.deep, y.deep+1)
	}
	demand(x.nodes <= api.MaxNodes && x.deep <= api.MaxDeep, api.ErrLimit)
	return x
}

// of returns the node of a tree.
func of(t api.Term) *node {
	if t.Kind == api.KVar {
		return variable(t.N)
	}
	args := make([]*node, len(t.L))
	for i, x := range t.L {
		args[i] = of(x)
	}
	return operation(t.N, args)
}

// term returns a node as a term, in new memory.
func (x *node) term() api.Term {
	t := api.Term{Kind: x.kind, N: x.n}
	for _, y := range x.args {
		t.L = append(t.L, y.term())
	}
	return t
}

func same(a, b *node) bool {
	return a == b || a.kind == b.kind && a.n == b.n && a.nodes == b.nodes && slices.EqualFunc(a.args, b.args, same)
}

// with returns a pattern with terms in the places of its variables.
func (x *node) with(l []*node) *node {
	if x.kind == api.KVar {
		return l[x.n]
	}
	args := make([]*node, len(x.args))
	for i, y := range x.args {
		args[i] = y.with(l)
	}
	return operation(x.n, args)
}

// match notes in l what the variables of a pattern are in a term, and reports whether it is an instance.
func match(pattern, x *node, l []*node) bool {
	if pattern.kind == api.KVar {
		if l[pattern.n] == nil {
			l[pattern.n] = x
		}
		return same(l[pattern.n], x)
	}
	if x.kind != api.KOp || x.n != pattern.n {
		return false
	}
	for i, y := range pattern.args {
		if !match(y, x.args[i], l) {
			return false
		}
	}
	return true
}

// at returns what stands at a place, nil if it is none.
func (x *node) at(path []int) *node {
	for _, i := range path {
		if !isIndex(i, len(x.args)) {
			return nil
		}
		x = x.args[i]
	}
	return x
}

// put returns a term with another one at a place.
func (x *node) put(path []int, y *node) *node {
	if len(path) == 0 {
		return y
	}
	args := slices.Clone(x.args)
	args[path[0]] = args[path[0]].put(path[1:], y)
	return operation(x.n, args)
}

// places goes through the places of a term at which operations stand, a node ahead of its elements. A place is changed behind its step.
func (x *node) places() iter.Seq2[[]int, *node] {
	return func(yield func([]int, *node) bool) {
		var visit func(at []int, x *node) bool
		visit = func(at []int, x *node) bool {
			if x.kind == api.KOp && !yield(at, x) {
				return false
			}
			for i, y := range x.args {
				if !visit(append(at, i), y) {
					return false
				}
			}
			return true
		}
		visit(nil, x)
	}
}

// numbered returns terms with their variables numbered by their first occurrence, and which ones they were, of so many.
func numbered(many int, l []*node) ([]*node, []int) {
	numbers := make([]*node, many)
	var were []int
	var visit func(x *node)
	visit = func(x *node) {
		if x.kind == api.KVar && numbers[x.n] == nil {
			numbers[x.n] = variable(len(were))
			were = append(were, x.n)
		}
		for _, y := range x.args {
			visit(y)
		}
	}
	out := make([]*node, len(l))
	for i, x := range l {
		visit(x)
		out[i] = x.with(numbers)
	}
	return out, were
}
