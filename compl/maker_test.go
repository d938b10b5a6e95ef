package compl_test

import (
	"math/rand"
	"slices"

	"madrigal/api"
	"madrigal/sig"
)

// maker makes terms, types, steps, states and inferences by chance.
type maker struct{ r *rand.Rand }

func newMaker(seed int64) maker { return maker{rand.New(rand.NewSource(seed))} }

// once reports true once in so many times.
func (g maker) once(in int) bool { return g.r.Intn(in) == 0 }

func pick[T any](g maker, l []T) T { return l[g.r.Intn(len(l))] }

// some is a signature with two sorts.
func some() api.Sig {
	return signature("N M", o("a", 0), o("b", 0), o("f", 0, 0), o("h", 0, 0, 0), o("c", 1), o("k", 0, 1), o("p", 1, 1, 1), o("g", 1, 0))
}

// unary and few are signatures with one sort: with operations of one argument alone, and with one of two.
func unary() api.Sig { return signature("N", o("a", 0), o("f", 0, 0), o("g", 0, 0)) }

func few() api.Sig {
	return signature("N", o("a", 0), o("b", 0), o("c", 0), o("f", 0, 0), o("h", 0, 0, 0))
}

// sortOf is the sort of a term over sorts of variables.
func sortOf(s api.Sig, vars []int, t api.Term) int {
	if t.Kind == api.KVar {
		return vars[t.N]
	}
	return s.Ops[t.N].Res
}

// term returns a term of a sort with at most so many levels.
func (g maker) term(s api.Sig, sort, levels int, vars []int) api.Term {
	var l []api.Term
	for n, x := range vars {
		if x == sort {
			l = append(l, v(n))
		}
	}
	if len(l) > 0 && g.once(3) {
		return pick(g, l)
	}
	var ops []int
	for n, x := range s.Ops {
		if x.Res == sort && (levels > 1 || len(x.Args) == 0) {
			ops = append(ops, n)
		}
	}
	t := op(pick(g, ops))
	for _, x := range s.Ops[t.N].Args {
		t.L = append(t.L, g.term(s, x, levels-1, vars))
	}
	return t
}

// over returns a term of a sort whose variables occur in another one: often a part of that.
func (g maker) over(s api.Sig, sort, levels int, vars []int, t api.Term) api.Term {
	var l []api.Term
	for _, x := range parts(t) {
		if sortOf(s, vars, x) == sort {
			l = append(l, x)
		}
	}
	if len(l) > 0 && g.once(2) {
		return copied(pick(g, l))
	}
	x := g.term(s, sort, levels, vars)
	there := sig.Vars([]api.Term{t})
	list := make([]api.Term, len(vars))
	for n, of := range vars {
		list[n] = g.term(s, of, 1, nil)
		for _, m := range there {
			if vars[m] == of {
				list[n] = v(m)
			}
		}
		if slices.Contains(there, n) {
			list[n] = v(n)
		}
	}
	return instance(x, list)
}

// eqn returns an equation; many have gaps in the numbers of their variables, and some have conditions. In most of them all terms are smaller than the left side, so that rewriting mostly ends.
func (g maker) eqn(s api.Sig, conds int) api.Eqn {
	vars := []int{0, len(s.Sorts) - 1, 0}
	sort, isCalm := g.r.Intn(len(s.Sorts)), !g.once(10)
	a := g.term(s, sort, 3, vars)
	for a.Kind != api.KOp || isCalm && len(a.L) == 0 {
		a = g.term(s, sort, 3, vars)
	}
	side := func(sort int) api.Term {
		x := g.over(s, sort, 3, vars, a)
		for range 20 {
			if !isCalm || len(parts(x)) < len(parts(a)) {
				break
			}
			x = g.over(s, sort, 2, vars, a)
		}
		return x
	}
	e := api.Eqn{Vars: vars, A: a, B: side(sort)}
	for conds > 0 && g.once(2) {
		conds--
		of := g.r.Intn(len(s.Sorts))
		e.Conds = append(e.Conds, api.Pair{A: side(of), B: side(of)})
	}
	return e
}

// equations returns a type with at most so many equations.
func (g maker) equations(s api.Sig, most, conds int) api.Type {
	t := data(s)
	for range 1 + g.r.Intn(most) {
		t.Eqns = append(t.Eqns, g.eqn(s, conds))
	}
	return t
}

// any returns a term of any sort.
func (g maker) any(s api.Sig, levels int) api.Term {
	return g.term(s, g.r.Intn(len(s.Sorts)), levels, []int{0, len(s.Sorts) - 1})
}

// instanceOf returns a term in which the left side of an equation matches somewhere.
func (g maker) instanceOf(s api.Sig, e api.Eqn, levels int) api.Term {
	var l []api.Term
	for _, sort := range e.Vars {
		l = append(l, g.term(s, sort, levels, nil))
	}
	x := instance(e.A, l)
	for range g.r.Intn(3) {
		around := g.any(s, 3)
		places, _ := sig.Paths(around)
		for _, i := range g.r.Perm(len(places)) {
			at, _ := sig.At(around, places[i])
			if sortOf(s, []int{0, len(s.Sorts) - 1}, at) == s.Ops[x.N].Res {
				x, _ = sig.Put(around, places[i], x)
				break
			}
		}
	}
	return x
}

// flawed returns steps with a small change, which may be some still.
func (g maker) flawed(l []api.Rstep) []api.Rstep {
	l = copied(l)
	if len(l) == 0 {
		return []api.Rstep{{Eqn: g.r.Intn(3)}}
	}
	i := g.r.Intn(len(l))
	s := &l[i]
	if n := len(s.Conds); n > 0 && g.once(2) {
		j := &s.Conds[g.r.Intn(n)]
		if g.once(2) {
			j.A = g.flawed(j.A)
		} else {
			j.B = g.flawed(j.B)
		}
		return l
	}
	switch g.r.Intn(9) {
	case 0:
		s.Eqn += g.r.Intn(3) - 1
	case 1:
		s.Eqn = g.r.Intn(6) - 1
	case 2:
		s.At = append(s.At, g.r.Intn(2))
	case 3:
		if len(s.At) > 0 {
			s.At[g.r.Intn(len(s.At))] = g.r.Intn(4) - 1
		}
	case 4:
		if len(s.At) > 0 {
			s.At = s.At[1:]
		}
	case 5:
		s.Conds = append(s.Conds, api.Rjoin{})
	case 6:
		if len(s.Conds) > 0 {
			s.Conds = s.Conds[1:]
		}
	case 7:
		l = slices.Delete(l, i, i+1)
	case 8:
		l = slices.Insert(l, i, copied(l[g.r.Intn(len(l))]))
	}
	return l
}

// order returns an order of operations with different places.
func (g maker) order(s api.Sig) api.Order {
	var o api.Order
	for _, place := range g.r.Perm(len(s.Ops)) {
		o.Place = append(o.Place, place)
		o.Status = append(o.Status, 1+g.r.Intn(3))
	}
	return o
}

// plain returns a plain equation of at most so many levels.
func (g maker) plain(s api.Sig, levels int, vars []int) api.Eqn {
	sort := g.r.Intn(len(s.Sorts))
	return right(vars, g.term(s, sort, levels, vars), g.term(s, sort, levels, vars))
}

// given returns a signature and an order, and equations, of which there often is a completion.
func (g maker) given() (completing, []api.Eqn) {
	var s api.Sig
	var l []api.Eqn
	switch g.r.Intn(4) {
	case 0: // equations without variables
		s = pick(g, []api.Sig{some(), few()})
		for range 1 + g.r.Intn(6) {
			l = append(l, g.plain(s, 3, nil))
		}
	case 1: // words
		s = unary()
		for range 1 + g.r.Intn(3) {
			l = append(l, right([]int{0}, g.word(4), g.word(3)))
		}
	case 2:
		s = few()
		for range 1 + g.r.Intn(3) {
			l = append(l, g.plain(s, 3, []int{0, 0}))
		}
	case 3:
		s = some()
		for range 1 + g.r.Intn(3) {
			l = append(l, g.plain(s, 3, []int{0, 1}))
		}
	}
	return completing{s, g.order(s)}, l
}

// word returns a term of operations with one argument around a variable.
func (g maker) word(levels int) api.Term {
	t := v(0)
	for range g.r.Intn(levels) + 1 {
		t = op(1+g.r.Intn(2), t)
	}
	return t
}

// possible returns the inferences of a kind with an equation that are steps by rules on a term of it.
func possible(rules []api.Eqn, kind, k int, x api.Term, flip bool) []api.Cact {
	var l []api.Cact
	places, _ := sig.Paths(x)
	for _, at := range places {
		y, _ := sig.At(x, at)
		for rule, e := range rules {
			if _, is, _ := sig.Match(e.A, y); is && (kind != api.CaCollapse || rule != k) {
				l = append(l, api.Cact{Kind: kind, K: k, Rule: rule, At: at, Flip: flip})
			}
		}
	}
	return l
}

// act returns an inference, which can be made if there is one of its kind.
func (g maker) act(w completing, c api.Cstate) api.Cact {
	var l []api.Cact
	kind := 1 + g.r.Intn(6)
	for k, e := range c.Open {
		switch kind {
		case api.CaOrient:
			l = append(l, api.Cact{Kind: kind, K: k, Flip: w.greater(e.B, e.A)})
		case api.CaDelete:
			if sig.Same(e.A, e.B) {
				l = append(l, api.Cact{Kind: kind, K: k})
			}
		case api.CaRewrite:
			l = append(append(l, possible(c.Rules, kind, k, e.A, false)...), possible(c.Rules, kind, k, e.B, true)...)
		}
	}
	for k, e := range c.Rules {
		switch kind {
		case api.CaCompose:
			l = append(l, possible(c.Rules, kind, k, e.B, false)...)
		case api.CaCollapse:
			l = append(l, possible(c.Rules, kind, k, e.A, false)...)
		}
	}
	if pairs, err := w.with(c.Rules).pairs(); kind == api.CaDeduce && err == api.OK {
		for _, p := range pairs {
			l = append(l, api.Cact{Kind: kind, K: p.One, Rule: p.Other, At: p.At})
		}
	}
	if len(l) == 0 {
		return api.Cact{Kind: kind, K: g.r.Intn(3), Rule: g.r.Intn(3)}
	}
	return copied(pick(g, l))
}

// flawedAct returns an inference with a small change, which may be one still.
func (g maker) flawedAct(a api.Cact) api.Cact {
	a = copied(a)
	switch g.r.Intn(8) {
	case 0:
		a.Kind = g.r.Intn(9) - 1
	case 1:
		a.K += g.r.Intn(3) - 1
	case 2:
		a.Rule += g.r.Intn(3) - 1
	case 3:
		a.At = append(a.At, g.r.Intn(2))
	case 4:
		if len(a.At) > 0 {
			a.At = a.At[1:]
		}
	case 5:
		a.Flip = !a.Flip
	case 6:
		if len(a.At) > 0 {
			a.At[g.r.Intn(len(a.At))] = g.r.Intn(4) - 1
		}
	case 7:
		a.K, a.Rule = a.Rule, a.K
	}
	return a
}
