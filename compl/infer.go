package compl

import (
	"slices"

	"madrigal/api"
	"madrigal/paths"
	"madrigal/sig"
)

// Infer returns the state behind an inference.
func Infer(s api.Sig, o api.Order, c api.Cstate, a api.Cact) (api.Cstate, api.Errno) {
	if err := paths.CheckOrder(s, o); err != api.OK {
		return api.Cstate{}, err
	}
	if !isState(s, o, c) {
		return api.Cstate{}, api.ErrArg
	}
	var out api.Cstate
	err := attempt(func() {
		x := newState(s, o, c)
		x.infer(a)
		out = api.Cstate{Rules: eqnsOf(x.rules.eqns), Open: eqnsOf(x.open)}
	})
	return out, err
}

// isState reports whether c is a state.
func isState(s api.Sig, o api.Order, c api.Cstate) bool {
	if len(c.Rules) > api.MaxEqns || len(c.Open) > api.MaxOpenEq || !arePlain(s, c.Rules) || !arePlain(s, c.Open) {
		return false
	}
	return !slices.ContainsFunc(c.Rules, func(e api.Eqn) bool { return !isGreater(s, o, e.A, e.B) })
}

func isGreater(s api.Sig, o api.Order, a, b api.Term) bool {
	is, err := paths.Greater(s, o, a, b)
	return is && err == api.OK
}

func arePlain(s api.Sig, l []api.Eqn) bool {
	return !slices.ContainsFunc(l, func(e api.Eqn) bool { return !isPlain(s, e) })
}

// isPlain reports whether e is a plain equation over a signature.
func isPlain(s api.Sig, e api.Eqn) bool {
	if len(e.Conds) > 0 || len(e.Vars) > api.MaxVars || sig.Tree(e.A) != api.OK || sig.Tree(e.B) != api.OK {
		return false
	}
	if slices.ContainsFunc(e.Vars, func(n int) bool { return !isIndex(n, len(s.Sorts)) }) {
		return false
	}
	a, ok := sortOf(s, e.Vars, e.A)
	b, is := sortOf(s, e.Vars, e.B)
	return ok && is && a == b && isRight(e)
}

// sortOf returns the sort of a tree, if it is a term. It does not ask sig.Sort, which would look at the whole signature for each term.
func sortOf(s api.Sig, vars []int, t api.Term) (int, bool) {
	if t.Kind == api.KVar {
		if t.N >= len(vars) {
			return 0, false
		}
		return vars[t.N], true
	}
	if t.N >= len(s.Ops) || len(s.Ops[t.N].Args) != len(t.L) {
		return 0, false
	}
	o := s.Ops[t.N]
	for i, x := range t.L {
		if n, ok := sortOf(s, vars, x); !ok || n != o.Args[i] {
			return 0, false
		}
	}
	return o.Res, true
}

// isRight reports whether the variables of an equation are numbered by their first occurrence, and all of them occur.
func isRight(e api.Eqn) bool {
	vars := sig.Vars([]api.Term{e.A, e.B})
	for i, n := range vars {
		if n != i {
			return false
		}
	}
	return len(vars) == len(e.Vars)
}

// state is a state of a completion, and the critical pairs of its rules, if they were asked for since the rules changed.
type state struct {
	sig    api.Sig
	order  api.Order
	rules  *system
	open   []*equation
	pairer *pairer
	pairs  []crit
	asked  bool
}

func newState(s api.Sig, o api.Order, c api.Cstate) *state {
	return &state{sig: s, order: o, rules: newSystem(equationsOf(c.Rules)), open: equationsOf(c.Open), pairer: newPairer()}
}

// eqnsOf returns equations without conditions in new memory.
func eqnsOf(l []*equation) []api.Eqn {
	var out []api.Eqn
	for _, e := range l {
		out = append(out, api.Eqn{Vars: slices.Clone(e.vars), A: e.a.term(), B: e.b.term()})
	}
	return out
}

// infer makes an inference. It throws ErrAct if it cannot be made.
func (c *state) infer(a api.Cact) {
	kinds := [...]func(c *state, a api.Cact){api.CaOrient: (*state).orient, api.CaDelete: (*state).delete, api.CaRewrite: (*state).rewrite, api.CaDeduce: (*state).deduce, api.CaCompose: (*state).compose, api.CaCollapse: (*state).collapse}
	demand(a.Kind >= api.CaOrient && a.Kind <= api.CaCollapse, api.ErrAct)
	kinds[a.Kind](c, a)
}

func (c *state) orient(a api.Cact) {
	demand(a.Rule == 0 && len(a.At) == 0, api.ErrAct)
	e := c.openAt(a.K)
	if a.Flip {
		e = plain(e.vars, e.b, e.a)
	}
	demand(c.isGreater(e.a, e.b), api.ErrAct)
	c.open = slices.Delete(c.open, a.K, a.K+1)
	c.setRules(append(c.rules.eqns, e))
}

func (c *state) delete(a api.Cact) {
	demand(a.Rule == 0 && len(a.At) == 0 && !a.Flip, api.ErrAct)
	e := c.openAt(a.K)
	demand(same(e.a, e.b), api.ErrAct)
	c.open = slices.Delete(c.open, a.K, a.K+1)
}

func (c *state) rewrite(a api.Cact) {
	e := c.openAt(a.K)
	if a.Flip {
		c.open[a.K] = plain(e.vars, e.a, c.behind(e.b, a))
	} else {
		c.open[a.K] = plain(e.vars, c.behind(e.a, a), e.b)
	}
}

func (c *state) deduce(a api.Cact) {
	demand(!a.Flip, api.ErrAct)
	asked := crit{one: a.K, other: a.Rule, at: a.At}
	i, found := slices.BinarySearchFunc(c.allPairs(), asked, crit.compare)
	demand(found, api.ErrAct)
	e := c.pairs[i].equation
	demand(len(e.vars) <= api.MaxVars, api.ErrLimit)
	c.add(&e)
}

func (c *state) compose(a api.Cact) {
	demand(!a.Flip, api.ErrAct)
	e := c.ruleAt(a.K)
	l := slices.Clone(c.rules.eqns)
	l[a.K] = plain(e.vars, e.a, c.behind(e.b, a))
	c.setRules(l)
}

func (c *state) collapse(a api.Cact) {
	demand(!a.Flip && a.K != a.Rule, api.ErrAct)
	e := c.ruleAt(a.K)
	e = plain(e.vars, c.behind(e.a, a), e.b)
	c.setRules(slices.Delete(slices.Clone(c.rules.eqns), a.K, a.K+1))
	c.add(e)
}

func (c *state) openAt(k int) *equation {
	demand(isIndex(k, len(c.open)), api.ErrAct)
	return c.open[k]
}

func (c *state) ruleAt(k int) *equation {
	demand(isIndex(k, len(c.rules.eqns)), api.ErrAct)
	return c.rules.eqns[k]
}

// behind returns the term behind a step by a rule.
func (c *state) behind(x *node, a api.Cact) *node {
	l, ok := c.rules.matchAt(a.Rule, x, a.At)
	demand(ok, api.ErrAct)
	return x.put(a.At, c.rules.eqns[a.Rule].b.with(l))
}

// setRules replaces the rules, whose list is not changed from then on.
func (c *state) setRules(l []*equation) {
	demand(len(l) <= api.MaxEqns, api.ErrLimit)
	c.rules = newSystem(l)
	c.pairs, c.asked = nil, false
}

// add puts an equation behind the open ones.
func (c *state) add(e *equation) {
	demand(len(c.open) < api.MaxOpenEq, api.ErrLimit)
	c.open = append(c.open, e)
}

func (c *state) isGreater(a, b *node) bool { return isGreater(c.sig, c.order, a.term(), b.term()) }

// allPairs returns the critical pairs of the rules.
func (c *state) allPairs() []crit {
	if !c.asked {
		c.pairs = c.pairer.pairs(c.rules.eqns, func(one, other int) bool { return true })
		c.asked = true
	}
	return c.pairs
}

// plain returns a plain equation, put right.
func plain(vars []int, a, b *node) *equation {
	e := normal(vars, a, b)
	return &e
}
