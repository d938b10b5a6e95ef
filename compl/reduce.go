package compl

import (
	"slices"

	"madrigal/api"
)

// Reduce returns a normal form, and the steps that lead to it.
func Reduce(t api.Type, x api.Term, most int) (api.Term, []api.Rstep, api.Errno) {
	if err := admitted(t, x); err != api.OK {
		return api.Term{}, nil, err
	}
	if !isBound(most) {
		return api.Term{}, nil, api.ErrArg
	}
	var out api.Term
	var steps []api.Rstep
	err := attempt(func() {
		y, l := systemOf(t).reduced(of(x), most)
		out, steps = y.term(), l
	})
	return out, steps, err
}

// Join returns steps by which two terms come to the same normal form, and whether they do.
func Join(t api.Type, a, b api.Term, most int) (api.Rjoin, bool, api.Errno) {
	if err := admitted(t, a, b); err != api.OK {
		return api.Rjoin{}, false, err
	}
	if !isBound(most) {
		return api.Rjoin{}, false, api.ErrArg
	}
	var j api.Rjoin
	var is bool
	err := attempt(func() { j, is = systemOf(t).join(of(a), of(b), most) })
	return j, is, err
}

func (s *system) join(a, b *node, most int) (api.Rjoin, bool) {
	x, one := s.reduced(a, most)
	y, other := s.reduced(b, most)
	if !same(x, y) {
		return api.Rjoin{}, false
	}
	return api.Rjoin{A: one, B: other}, true
}

// reduced returns the normal form of a term, and the steps that lead to it. These are replayed, since the terms on their way can be greater than all that were put together.
func (s *system) reduced(x *node, most int) (*node, []api.Rstep) {
	r := &reducer{system: s, left: most}
	done := r.reduce(x, nil)
	demand(!done.tooDeep, api.ErrLimit)
	s.replay(x, done.steps)
	return done.came, done.steps
}

// reducer reduces terms, as long as not too many equations are tried.
type reducer struct {
	*system
	left int
}

// outcome is what came of a pattern, and the steps that lead to it: none if they go deeper than a tree can be.
type outcome struct {
	came    *node
	steps   []api.Rstep
	tooDeep bool
}

// reduce reduces a pattern. Where there is no list, variables stand for themselves.
func (r *reducer) reduce(pattern *node, list []*node) outcome {
	d := descent{reducer: r}
	d.begin(pattern, list)
	for len(d.open) > 0 {
		d.advance()
	}
	d.came = d.done[0]
	return d.outcome
}

// descent is a reduction under way. What is open is kept in a list and not in calls within calls, for they could be millions: as many as there are nodes on the ways to the innermost ones, and equations that are used there. What came of elements of what is open is done.
type descent struct {
	*reducer
	open []pending
	done []*node
	outcome
}

// pending is an operation of a pattern, and how many of its elements were begun.
type pending struct {
	pattern *node
	list    []*node
	begun   int
}

func (d *descent) begin(pattern *node, list []*node) {
	switch {
	case pattern.kind == api.KOp:
		d.open = append(d.open, pending{pattern: pattern, list: list})
	case list == nil:
		d.done = append(d.done, pattern)
	default:
		d.done = append(d.done, list[pattern.n])
	}
}

// advance goes on with the innermost operation: with its next element, or, if they are all done, with the equations.
func (d *descent) advance() {
	p := &d.open[len(d.open)-1]
	if p.begun < len(p.pattern.args) {
		next := p.pattern.args[p.begun]
		p.begun++
		d.begin(next, p.list)
		return
	}
	y := d.close()
	k, list, joins, ok := d.use(y)
	if !ok {
		d.done = append(d.done, y)
		return
	}
	d.note(k, joins)
	d.begin(d.eqns[k].b, list)
}

// close puts the innermost operation and what came of its elements together.
func (d *descent) close() *node {
	last := len(d.open) - 1
	p := d.open[last].pattern
	first := len(d.done) - len(p.args)
	y := operation(p.n, slices.Clone(d.done[first:]))
	d.open, d.done = d.open[:last], d.done[:first]
	return y
}

// use returns the first equation that can be used on a term whose elements are reduced, what its variables are there, and the outcomes of its conditions.
func (r *reducer) use(y *node) (int, []*node, [][2]outcome, bool) {
	for k, list := range r.matches(y) {
		demand(r.left > 0, api.ErrLimit)
		r.left--
		if joins, ok := r.hold(r.eqns[k].conds, list); ok {
			return k, list, joins, true
		}
	}
	return 0, nil, nil, false
}

// hold returns the outcomes of both sides of conditions, and whether they are the same.
func (r *reducer) hold(l []condition, list []*node) ([][2]outcome, bool) {
	var joins [][2]outcome
	for _, c := range l {
		a := r.reduce(c.a, list)
		b := r.reduce(c.b, list)
		if !same(a.came, b.came) {
			return nil, false
		}
		joins = append(joins, [2]outcome{a, b})
	}
	return joins, true
}

// note adds the step by an equation, behind all that is open.
func (d *descent) note(k int, joins [][2]outcome) {
	s := api.Rstep{Eqn: k}
	d.tooDeep = d.tooDeep || len(d.open) >= api.MaxDeep
	for _, j := range joins {
		d.tooDeep = d.tooDeep || j[0].tooDeep || j[1].tooDeep
		s.Conds = append(s.Conds, api.Rjoin{A: j[0].steps, B: j[1].steps})
	}
	if d.tooDeep {
		d.steps = nil
		return
	}
	for _, p := range d.open {
		s.At = append(s.At, p.begun-1)
	}
	d.steps = append(d.steps, s)
}
