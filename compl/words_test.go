package compl_test

import (
	"slices"

	"madrigal/api"
	"madrigal/paths"
	"madrigal/sig"
	"madrigal/types"
)

// words carries out the chapter's words, one by one. What goes wrong is thrown as an api.Errno.
type words struct{ t api.Type }

// said returns what words say, or the error that they throw.
func said[T any](say func() T) (out T, err api.Errno) {
	defer func() {
		if thrown := recover(); thrown != nil {
			err = thrown.(api.Errno)
		}
	}()
	return say(), api.OK
}

// ok returns a result of package sig, of which nothing but a limit can be wrong.
func ok(x api.Term, err api.Errno) api.Term {
	if err == api.ErrLimit {
		panic(err)
	}
	if err != api.OK {
		panic("no term")
	}
	return x
}

// full returns a list in which each variable that does not occur is some term.
func full(l []api.Term, many int) []api.Term {
	out := make([]api.Term, many)
	for i := range out {
		if out[i] = v(i); i < len(l) && l[i].Kind != 0 {
			out[i] = l[i]
		}
	}
	return out
}

// instance returns a term with a list put in.
func instance(x api.Term, l []api.Term) api.Term {
	many := len(l)
	for _, n := range sig.Vars([]api.Term{x}) {
		many = max(many, n+1)
	}
	return ok(sig.Subst(x, full(l, many)))
}

// behind returns the term behind a step, and counts steps.
func (w words) behind(x api.Term, s api.Rstep, count *int) api.Term {
	if *count++; *count > 20000 {
		panic(api.ErrLimit)
	}
	if s.Eqn < 0 || s.Eqn >= len(w.t.Eqns) {
		panic(api.ErrStep)
	}
	e := w.t.Eqns[s.Eqn]
	at, err := sig.At(x, s.At)
	if err != api.OK {
		panic(api.ErrStep)
	}
	m, is, _ := sig.Match(e.A, at)
	if !is || len(s.Conds) != len(e.Conds) {
		panic(api.ErrStep)
	}
	for i, c := range e.Conds {
		a, b := instance(c.A, m), instance(c.B, m)
		a, b = w.lead(a, s.Conds[i].A, count), w.lead(b, s.Conds[i].B, count)
		if !sig.Same(a, b) {
			panic(api.ErrStep)
		}
	}
	return ok(sig.Put(x, s.At, instance(e.B, m)))
}

func (w words) lead(x api.Term, l []api.Rstep, count *int) api.Term {
	for _, s := range l {
		x = w.behind(x, s, count)
	}
	return x
}

func (w words) replay(x api.Term, l []api.Rstep) (api.Term, api.Errno) {
	return said(func() api.Term { return w.lead(x, l, new(int)) })
}

func (w words) checkJoin(a, b api.Term, j api.Rjoin) api.Errno {
	x, err := w.replay(a, j.A)
	if err != api.OK {
		return err
	}
	y, err := w.replay(b, j.B)
	if err != api.OK {
		return err
	}
	if !sig.Same(x, y) {
		return api.ErrJoin
	}
	return api.OK
}

// reducing is a reduction: how many equations were tried, and how many can be.
type reducing struct {
	words
	tried, most int
}

// reduce returns the normal form of a pattern with a list, and the steps within a term where it stands at a place.
func (r *reducing) reduce(x api.Term, l []api.Term, at []int) (api.Term, []api.Rstep) {
	if x.Kind == api.KVar {
		if l == nil {
			return x, nil
		}
		return l[x.N], nil
	}
	var steps []api.Rstep
	y := op(x.N)
	for i, z := range x.L {
		element, more := r.reduce(z, l, append(slices.Clone(at), i))
		y.L = append(y.L, element)
		steps = append(steps, more...)
	}
	if sig.Tree(y) != api.OK {
		panic(api.ErrLimit)
	}
	for k, e := range r.t.Eqns {
		m, is, _ := sig.Match(e.A, y)
		if !is {
			continue
		}
		if r.tried++; r.tried > r.most {
			panic(api.ErrLimit)
		}
		joins, holds := r.hold(e.Conds, full(m, 64))
		if !holds {
			continue
		}
		steps = append(steps, api.Rstep{Eqn: k, At: at, Conds: joins})
		z, more := r.reduce(e.B, full(m, 64), at)
		return z, append(steps, more...)
	}
	return y, steps
}

func (r *reducing) hold(l []api.Pair, m []api.Term) ([]api.Rjoin, bool) {
	var joins []api.Rjoin
	for _, c := range l {
		a, one := r.reduce(c.A, m, nil)
		b, other := r.reduce(c.B, m, nil)
		if !sig.Same(a, b) {
			return nil, false
		}
		joins = append(joins, api.Rjoin{A: one, B: other})
	}
	return joins, true
}

// reduced is what Reduce returns, and how many equations are tried for it.
type reduced struct {
	x     api.Term
	steps []api.Rstep
	tried int
}

func (w words) reduce(x api.Term, most int) (reduced, api.Errno) {
	return said(func() reduced {
		r := &reducing{words: w, most: most}
		y, steps := r.reduce(x, nil, nil)
		if _, err := w.replay(x, steps); err != api.OK {
			panic(err)
		}
		return reduced{y, steps, r.tried}
	})
}

func (w words) join(a, b api.Term, most int) (api.Rjoin, bool, api.Errno) {
	x, err := w.reduce(a, most)
	if err != api.OK {
		return api.Rjoin{}, false, err
	}
	y, err := w.reduce(b, most)
	if err != api.OK || !sig.Same(x.x, y.x) {
		return api.Rjoin{}, false, err
	}
	return api.Rjoin{A: x.steps, B: y.steps}, true, api.OK
}

func (w words) pairs() ([]api.Crit, api.Errno) {
	return said(func() []api.Crit {
		var all []api.Crit
		for one, e := range w.t.Eqns {
			places, _ := sig.Paths(e.A)
			for _, at := range places {
				for other := range w.t.Eqns {
					if c, is := w.pair(one, other, at); is {
						all = append(all, c)
					}
					if len(all) > 20000 {
						panic(api.ErrLimit)
					}
				}
			}
		}
		return all
	})
}

// pair returns the critical pair of two equations at a place, and whether there is one.
func (w words) pair(one, other int, at []int) (api.Crit, bool) {
	e, f := w.t.Eqns[one], w.t.Eqns[other]
	x, _ := sig.At(e.A, at)
	if x.Kind == api.KVar || len(at) == 0 && other >= one {
		return api.Crit{}, false
	}
	greater := func(x api.Term) api.Term { return ok(sig.Shift(x, 0, len(e.Vars))) }
	s, is, err := sig.Unify(x, greater(f.A))
	if err == api.ErrLimit {
		panic(err)
	}
	if !is {
		return api.Crit{}, false
	}
	terms := []api.Term{instance(ok(sig.Put(e.A, at, greater(f.B))), s), instance(e.B, s)}
	for _, c := range e.Conds {
		terms = append(terms, instance(c.A, s), instance(c.B, s))
	}
	for _, c := range f.Conds {
		terms = append(terms, instance(greater(c.A), s), instance(greater(c.B), s))
	}
	terms, were, _ := sig.Normal(terms)
	c := api.Crit{One: one, Other: other, At: at, A: terms[0], B: terms[1]}
	for i := 2; i < len(terms); i += 2 {
		c.Conds = append(c.Conds, api.Pair{A: terms[i], B: terms[i+1]})
	}
	for _, n := range were {
		c.Vars = append(c.Vars, slices.Concat(e.Vars, f.Vars)[n])
	}
	return c, true
}

func (w words) confluent(most int) ([]api.Rjoin, int, api.Errno) {
	pairs, err := w.pairs()
	if err != api.OK {
		return nil, 0, err
	}
	var joins []api.Rjoin
	for i, c := range pairs {
		j, is, err := w.join(c.A, c.B, most)
		if err != api.OK {
			return nil, 0, err
		}
		if !is {
			return nil, i, api.OK
		}
		joins = append(joins, j)
	}
	return joins, -1, api.OK
}

func (w words) checkConfluent(l []api.Rjoin) api.Errno {
	pairs, err := w.pairs()
	if err != api.OK {
		return err
	}
	if len(l) != len(pairs) {
		return api.ErrJoin
	}
	for i, c := range pairs {
		if err := w.checkJoin(c.A, c.B, l[i]); err != api.OK {
			return err
		}
	}
	return api.OK
}

// completing is a signature and an order.
type completing struct {
	s api.Sig
	o api.Order
}

// right returns an equation that is put right.
func right(vars []int, a, b api.Term) api.Eqn {
	l, were, _ := sig.Normal([]api.Term{a, b})
	e := api.Eqn{A: l[0], B: l[1]}
	for _, n := range were {
		e.Vars = append(e.Vars, vars[n])
	}
	return e
}

func (w completing) isPlain(e api.Eqn) bool {
	a, err := sig.Sort(w.s, e.Vars, e.A)
	b, wrong := sig.Sort(w.s, e.Vars, e.B)
	return len(e.Conds) == 0 && err == api.OK && wrong == api.OK && a == b && len(e.Vars) <= 64 && same(e, right(append(e.Vars, 0), e.A, e.B))
}

func (w completing) greater(a, b api.Term) bool {
	is, err := paths.Greater(w.s, w.o, a, b)
	return is && err == api.OK
}

func (w completing) isRule(e api.Eqn) bool {
	return w.isPlain(e) && e.A.Kind != api.KVar && w.greater(e.A, e.B)
}

func (w completing) isState(c api.Cstate) bool {
	isBad := func(e api.Eqn) bool { return !w.isPlain(e) }
	isNoRule := func(e api.Eqn) bool { return !w.isRule(e) }
	return len(c.Rules) <= 400 && len(c.Open) <= 2000 && !slices.ContainsFunc(c.Open, isBad) && !slices.ContainsFunc(c.Rules, isNoRule)
}

// with is the type with the rules.
func (w completing) with(rules []api.Eqn) words { return words{api.Type{Sig: w.s, Eqns: rules}} }

// step returns the term behind a step by a rule.
func (w completing) step(rules []api.Eqn, x api.Term, a api.Cact) api.Term {
	y, err := said(func() api.Term {
		return w.with(rules).behind(x, api.Rstep{Eqn: a.Rule, At: a.At}, new(int))
	})
	if err == api.ErrStep {
		panic(api.ErrAct)
	}
	if err != api.OK {
		panic(err)
	}
	return y
}

func must(is bool) {
	if !is {
		panic(api.ErrAct)
	}
}

// infer returns the state behind an inference.
func (w completing) infer(c api.Cstate, a api.Cact) (api.Cstate, api.Errno) {
	return said(func() api.Cstate {
		c := api.Cstate{Rules: slices.Clone(c.Rules), Open: slices.Clone(c.Open)}
		isOpen, isRule := a.K >= 0 && a.K < len(c.Open), a.K >= 0 && a.K < len(c.Rules)
		switch a.Kind {
		case api.CaOrient:
			must(isOpen && a.Rule == 0 && len(a.At) == 0)
			e := c.Open[a.K]
			if a.Flip {
				e = right(e.Vars, e.B, e.A)
			}
			must(w.isRule(e))
			c.Open, c.Rules = slices.Delete(c.Open, a.K, a.K+1), append(c.Rules, e)
		case api.CaDelete:
			must(isOpen && a.Rule == 0 && len(a.At) == 0 && !a.Flip)
			must(sig.Same(c.Open[a.K].A, c.Open[a.K].B))
			c.Open = slices.Delete(c.Open, a.K, a.K+1)
		case api.CaRewrite:
			must(isOpen)
			e := c.Open[a.K]
			if a.Flip {
				e.B = w.step(c.Rules, e.B, a)
			} else {
				e.A = w.step(c.Rules, e.A, a)
			}
			c.Open[a.K] = right(e.Vars, e.A, e.B)
		case api.CaDeduce:
			must(!a.Flip)
			c.Open = append(c.Open, w.deduce(c.Rules, a))
		case api.CaCompose:
			must(isRule && !a.Flip)
			e := c.Rules[a.K]
			c.Rules[a.K] = right(e.Vars, e.A, w.step(c.Rules, e.B, a))
		case api.CaCollapse:
			must(isRule && !a.Flip && a.Rule != a.K)
			e := c.Rules[a.K]
			c.Open = append(c.Open, right(e.Vars, w.step(c.Rules, e.A, a), e.B))
			c.Rules = slices.Delete(c.Rules, a.K, a.K+1)
		default:
			panic(api.ErrAct)
		}
		if len(c.Rules) > 400 || len(c.Open) > 2000 {
			panic(api.ErrLimit)
		}
		return c
	})
}

// deduce returns the critical pair that an inference names.
func (w completing) deduce(rules []api.Eqn, a api.Cact) api.Eqn {
	pairs, err := w.with(rules).pairs()
	if err != api.OK {
		panic(err)
	}
	for _, p := range pairs {
		if p.One == a.K && p.Other == a.Rule && slices.Equal(p.At, a.At) {
			if len(p.Vars) > 64 {
				panic(api.ErrLimit)
			}
			return api.Eqn{Vars: p.Vars, A: p.A, B: p.B}
		}
	}
	panic(api.ErrAct)
}

// innermost returns the place of the innermost step on a term, and its rule, from one on; false if there is none.
func innermost(rules []api.Eqn, from int, x api.Term, at []int) ([]int, int, bool) {
	for i, y := range x.L {
		if place, k, is := innermost(rules, from, y, append(slices.Clone(at), i)); is {
			return place, k, true
		}
	}
	for k := from; k < len(rules); k++ {
		if _, is, _ := sig.Match(rules[k].A, x); is {
			return at, k, true
		}
	}
	return nil, 0, false
}

// completed is a state, and the inferences that led to it.
type completed struct {
	api.Cstate
	acts []api.Cact
}

// make makes an inference.
func (w completing) make(c *completed, a api.Cact, most int) {
	if len(c.acts) == most {
		panic(api.ErrLimit)
	}
	next, err := w.infer(c.Cstate, a)
	if err != api.OK {
		panic(err)
	}
	c.Cstate, c.acts = next, append(c.acts, a)
}

func (w completing) complete(l []api.Eqn, most int) (completed, api.Errno) {
	return said(func() completed {
		c := completed{Cstate: api.Cstate{Open: l}}
		for len(c.Open) > 0 {
			w.round(&c, most)
		}
		return c
	})
}

// round does what is done with the first open equation.
func (w completing) round(c *completed, most int) {
	for at, k, is := innermost(c.Rules, 0, c.Open[0].A, nil); is; at, k, is = innermost(c.Rules, 0, c.Open[0].A, nil) {
		w.make(c, api.Cact{Kind: api.CaRewrite, Rule: k, At: at}, most)
	}
	for at, k, is := innermost(c.Rules, 0, c.Open[0].B, nil); is; at, k, is = innermost(c.Rules, 0, c.Open[0].B, nil) {
		w.make(c, api.Cact{Kind: api.CaRewrite, Rule: k, At: at, Flip: true}, most)
	}
	e := c.Open[0]
	switch {
	case sig.Same(e.A, e.B):
		w.make(c, api.Cact{Kind: api.CaDelete}, most)
		return
	case w.greater(e.A, e.B):
		w.make(c, api.Cact{Kind: api.CaOrient}, most)
	case w.greater(e.B, e.A):
		w.make(c, api.Cact{Kind: api.CaOrient, Flip: true}, most)
	default:
		panic(api.ErrHalt)
	}
	for k := 0; k < len(c.Rules)-1; {
		last := len(c.Rules) - 1
		if at, _, is := innermost(c.Rules, last, c.Rules[k].A, nil); is {
			w.make(c, api.Cact{Kind: api.CaCollapse, K: k, Rule: last, At: at}, most)
		} else {
			k++
		}
	}
	for k := range c.Rules {
		for at, rule, is := innermost(c.Rules, 0, c.Rules[k].B, nil); is; at, rule, is = innermost(c.Rules, 0, c.Rules[k].B, nil) {
			w.make(c, api.Cact{Kind: api.CaCompose, K: k, Rule: rule, At: at}, most)
		}
	}
	pairs, err := w.with(c.Rules).pairs()
	if err != api.OK {
		panic(err)
	}
	for _, p := range pairs {
		if last := len(c.Rules) - 1; p.One == last || p.Other == last {
			w.make(c, api.Cact{Kind: api.CaDeduce, K: p.One, Rule: p.Other, At: p.At}, most)
		}
	}
}

func (w completing) checkComplete(l []api.Eqn, acts []api.Cact, t api.Type, joins []api.Rjoin) api.Errno {
	c := api.Cstate{Open: l}
	for _, a := range acts {
		var err api.Errno
		if c, err = w.infer(c, a); err != api.OK {
			return err
		}
	}
	if len(c.Open) > 0 || !types.Same(t, api.Type{Sig: w.s, Eqns: c.Rules}) {
		return api.ErrAct
	}
	return words{t}.checkConfluent(joins)
}
