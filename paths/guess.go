package paths

import (
	"iter"
	"slices"

	"madrigal/api"
	"madrigal/types"
)

// tries is how many orders Guess looks at: more than there are of as few operations as Find can do with.
const tries = 5000

// Guess returns some order by which all equations decrease, and whether one was found.
func Guess(t api.Type) (api.Order, bool, api.Errno) {
	if err := types.Check(t); err != api.OK {
		return api.Order{}, false, err
	}
	g := guesser{sig: t.Sig, ops: dependent(t.Eqns), left: tries}
	g.group(t.Eqns)
	if !g.extend(0, nil) {
		return api.Order{}, false, api.OK
	}
	return g.found, true, api.OK
}

// level is operations with equal places.
type level struct {
	status int
	ops    []int
}

// guesser puts operations into levels, one after the other, as long as the equations decrease that have no others.
type guesser struct {
	sig   api.Sig
	ops   []int
	due   [][]api.Eqn // for each operation, the equations that have only it, and ones ahead of it
	left  int
	found api.Order
}

// group finds out when equations are due.
func (g *guesser) group(l []api.Eqn) {
	g.due = make([][]api.Eqn, len(g.ops))
	for _, e := range l {
		last := 0
		for _, n := range occurring(e) {
			last = max(last, slices.Index(g.ops, n))
		}
		g.due[last] = append(g.due[last], e)
	}
}

// extend puts the operation k, and those behind it, into levels, the least one first. It reports whether it could.
func (g *guesser) extend(k int, levels []level) bool {
	if k == len(g.ops) {
		g.found = g.order(levels)
		return true
	}
	for next := range insertions(levels, g.ops[k]) {
		if g.left == 0 {
			return false
		}
		g.left--
		if allDecrease(g.order(next), g.due[k]) && g.extend(k+1, next) {
			return true
		}
	}
	return false
}

// order returns the order of levels. All other operations have the last place, which is a level only if there are no others.
func (g *guesser) order(levels []level) api.Order {
	o := orderOf(g.sig)
	for place, l := range levels {
		for _, n := range l.ops {
			o.Place[n], o.Status[n] = place, l.status
		}
	}
	return o
}

// insertions goes through the levels that come of some by one more operation: those first where it has a great place.
func insertions(levels []level, op int) iter.Seq[[]level] {
	return func(yield func([]level) bool) {
		for i := len(levels); i >= 0; i-- {
			for status := api.ByLeft; status <= api.ByMulti; status++ {
				if !yield(slices.Insert(slices.Clone(levels), i, level{status: status, ops: []int{op}})) {
					return
				}
			}
			if i > 0 && !yield(joined(levels, i-1, op)) {
				return
			}
		}
	}
}

// joined returns levels with one more operation in one of them.
func joined(levels []level, i, op int) []level {
	next := slices.Clone(levels)
	next[i].ops = append(slices.Clone(next[i].ops), op)
	return next
}

// dependent returns the operations that occur in equations, those first of which others are made by equations, as far as there is such an order.
func dependent(l []api.Eqn) []int {
	parts := map[int][]int{}
	for _, e := range l {
		parts[e.A.N] = append(parts[e.A.N], occurring(e)...)
	}
	var ops []int
	met := map[int]bool{}
	var visit func(n int)
	visit = func(n int) {
		if met[n] {
			return
		}
		met[n] = true
		for _, m := range parts[n] {
			visit(m)
		}
		ops = append(ops, n)
	}
	for _, n := range occurring(l...) {
		visit(n)
	}
	return ops
}
