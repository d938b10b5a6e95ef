package compl

import (
	"iter"
	"slices"

	"madrigal/api"
)

// equation is an equation. It is never changed.
type equation struct {
	vars  []int
	a, b  *node
	conds []condition
}

// condition is two terms that are to be equal.
type condition struct{ a, b *node }

func equationOf(e api.Eqn) *equation {
	out := &equation{vars: e.Vars, a: of(e.A), b: of(e.B)}
	for _, c := range e.Conds {
		out.conds = append(out.conds, condition{of(c.A), of(c.B)})
	}
	return out
}

func equationsOf(l []api.Eqn) []*equation {
	var out []*equation
	for _, e := range l {
		out = append(out, equationOf(e))
	}
	return out
}

// system is equations that are used from left to right, and which of them have an operation outermost.
type system struct {
	eqns []*equation
	by   map[int][]int
}

func newSystem(l []*equation) *system {
	s := &system{eqns: l, by: map[int][]int{}}
	for k, e := range l {
		s.by[e.a.n] = append(s.by[e.a.n], k)
	}
	return s
}

func systemOf(t api.Type) *system { return newSystem(equationsOf(t.Eqns)) }

// matches goes through the equations whose left side matches a term, and what their variables are in it.
func (s *system) matches(x *node) iter.Seq2[int, []*node] {
	return func(yield func(int, []*node) bool) {
		for _, k := range s.by[x.n] {
			l := make([]*node, len(s.eqns[k].vars))
			if match(s.eqns[k].a, x, l) && !yield(k, l) {
				return
			}
		}
	}
}

// steps goes through the equations whose left side matches somewhere in a term, and these places: elements ahead of what they are elements of.
func (s *system) steps(x *node) iter.Seq2[int, []int] {
	return func(yield func(int, []int) bool) {
		var visit func(at []int, x *node) bool
		visit = func(at []int, x *node) bool {
			for i, y := range x.args {
				if !visit(append(at, i), y) {
					return false
				}
			}
			for k := range s.matches(x) {
				if !yield(k, slices.Clone(at)) {
					return false
				}
			}
			return true
		}
		visit(nil, x)
	}
}

// matchAt returns what the variables of an equation are at a place of a term, and whether its left side matches there.
func (s *system) matchAt(k int, x *node, at []int) ([]*node, bool) {
	if !isIndex(k, len(s.eqns)) {
		return nil, false
	}
	y := x.at(at)
	if y == nil {
		return nil, false
	}
	l := make([]*node, len(s.eqns[k].vars))
	return l, match(s.eqns[k].a, y, l)
}
