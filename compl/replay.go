package compl

import "madrigal/api"

// Replay returns the term behind steps.
func Replay(t api.Type, x api.Term, l []api.Rstep) (api.Term, api.Errno) {
	if err := admitted(t, x); err != api.OK {
		return api.Term{}, err
	}
	var out api.Term
	err := attempt(func() { out = systemOf(t).replay(of(x), l).term() })
	return out, err
}

// CheckJoin returns ErrJoin unless steps lead from two terms to the same one.
func CheckJoin(t api.Type, a, b api.Term, j api.Rjoin) api.Errno {
	if err := admitted(t, a, b); err != api.OK {
		return err
	}
	return attempt(func() { systemOf(t).checkJoin(of(a), of(b), j) })
}

func (s *system) checkJoin(a, b *node, j api.Rjoin) {
	x := s.replay(a, j.A)
	y := s.replay(b, j.B)
	demand(same(x, y), api.ErrJoin)
}

// replay returns the term to which steps lead.
func (s *system) replay(x *node, l []api.Rstep) *node {
	r := replayer{system: s, left: api.MaxReduce}
	return r.behind(x, l)
}

// replayer makes steps, as long as there are not too many.
type replayer struct {
	*system
	left int
}

// behind returns the term behind steps.
func (r *replayer) behind(x *node, l []api.Rstep) *node {
	for _, s := range l {
		x = r.step(x, s)
	}
	return x
}

// step returns the term behind a step. It counts the step first, and looks at the conditions ahead of the term.
func (r *replayer) step(x *node, s api.Rstep) *node {
	demand(r.left > 0, api.ErrLimit)
	r.left--
	l, ok := r.matchAt(s.Eqn, x, s.At)
	demand(ok, api.ErrStep)
	e := r.eqns[s.Eqn]
	demand(len(s.Conds) == len(e.conds), api.ErrStep)
	for i, c := range e.conds {
		a, b := c.a.with(l), c.b.with(l)
		demand(r.areJoined(a, b, s.Conds[i]), api.ErrStep)
	}
	return x.put(s.At, e.b.with(l))
}

// areJoined reports whether steps lead from two terms to the same one.
func (r *replayer) areJoined(a, b *node, j api.Rjoin) bool {
	x := r.behind(a, j.A)
	y := r.behind(b, j.B)
	return same(x, y)
}
