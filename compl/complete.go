package compl

import (
	"iter"
	"slices"

	"madrigal/api"
	"madrigal/paths"
	"madrigal/types"
)

// Complete returns a complete type for equations, and the inferences that lead to it.
func Complete(s api.Sig, o api.Order, l []api.Eqn, most int) (api.Type, []api.Cact, api.Errno) {
	if err := given(s, o, l); err != api.OK {
		return api.Type{}, nil, err
	}
	if !isBound(most) {
		return api.Type{}, nil, api.ErrArg
	}
	c := completion{state: newState(s, o, api.Cstate{Open: l}), most: most}
	if err := attempt(c.complete); err != api.OK {
		return api.Type{}, nil, err
	}
	return api.Type{Sig: copied(s), Eqns: eqnsOf(c.rules.eqns)}, c.acts, api.OK
}

// CheckComplete returns ErrAct unless inferences lead from equations to the rules of t, and ErrJoin unless all of its critical pairs are joined.
func CheckComplete(s api.Sig, o api.Order, l []api.Eqn, acts []api.Cact, t api.Type, joins []api.Rjoin) api.Errno {
	if err := types.Check(t); err != api.OK {
		return err
	}
	if err := given(s, o, l); err != api.OK {
		return err
	}
	if len(acts) > api.MaxActs {
		return api.ErrArg
	}
	err := attempt(func() {
		c := newState(s, o, api.Cstate{Open: l})
		for _, a := range acts {
			c.infer(a)
		}
		demand(len(c.open) == 0 && types.Same(t, api.Type{Sig: s, Eqns: eqnsOf(c.rules.eqns)}), api.ErrAct)
	})
	if err != api.OK {
		return err
	}
	return CheckConfluent(t, joins)
}

// given returns the error of what is no signature, no order of it, or no equations that can be completed.
func given(s api.Sig, o api.Order, l []api.Eqn) api.Errno {
	if err := paths.CheckOrder(s, o); err != api.OK {
		return err
	}
	if len(l) > api.MaxEqns || !arePlain(s, l) {
		return api.ErrArg
	}
	return api.OK
}

// copied returns a signature in new memory.
func copied(s api.Sig) api.Sig {
	out := api.Sig{Sorts: slices.Clone(s.Sorts), Ops: slices.Clone(s.Ops)}
	for i, o := range out.Ops {
		out.Ops[i].Args = slices.Clone(o.Args)
	}
	return out
}

// completion makes inferences, as long as they are not too many.
type completion struct {
	*state
	most int
	acts []api.Cact
}

func (c *completion) complete() {
	for len(c.open) > 0 {
		c.reduceOpen()
		if e := c.open[0]; same(e.a, e.b) {
			c.make(api.Cact{Kind: api.CaDelete})
			continue
		}
		c.make(c.orientation())
		c.collapseRules()
		c.composeRules()
		c.deducePairs()
	}
}

func (c *completion) make(a api.Cact) {
	demand(len(c.acts) < c.most, api.ErrLimit)
	c.infer(a)
	c.acts = append(c.acts, a)
}

// innermost goes through the innermost steps on a side, each of which has to be made before the next one is looked for.
func (c *completion) innermost(side func() *node) iter.Seq2[int, []int] {
	return func(yield func(int, []int) bool) {
		for {
			k, at, is := first(c.rules.steps(side()))
			if !is || !yield(k, at) {
				return
			}
		}
	}
}

// first returns the first of what is gone through, and whether there is one.
func first(l iter.Seq2[int, []int]) (int, []int, bool) {
	for k, at := range l {
		return k, at, true
	}
	return 0, nil, false
}

// reduceOpen makes innermost steps on both sides of the first open equation.
func (c *completion) reduceOpen() {
	for k, at := range c.innermost(func() *node { return c.open[0].a }) {
		c.make(api.Cact{Kind: api.CaRewrite, Rule: k, At: at})
	}
	for k, at := range c.innermost(func() *node { return c.open[0].b }) {
		c.make(api.Cact{Kind: api.CaRewrite, Rule: k, At: at, Flip: true})
	}
}

// orientation returns how the first open equation becomes a rule. It throws ErrHalt if it cannot.
func (c *completion) orientation() api.Cact {
	e := c.open[0]
	a := api.Cact{Kind: api.CaOrient, Flip: !c.isGreater(e.a, e.b)}
	demand(!a.Flip || c.isGreater(e.b, e.a), api.ErrHalt)
	return a
}

// collapseRules opens the rules whose left side has an instance of that of the last one.
func (c *completion) collapseRules() {
	last := len(c.rules.eqns) - 1
	newest := newSystem(c.rules.eqns[last:])
	for k := 0; k < last; {
		_, at, is := first(newest.steps(c.rules.eqns[k].a))
		if !is {
			k++
			continue
		}
		c.make(api.Cact{Kind: api.CaCollapse, K: k, Rule: last, At: at})
		last--
	}
}

// composeRules makes innermost steps on the right sides of all rules.
func (c *completion) composeRules() {
	for k := range c.rules.eqns {
		for rule, at := range c.innermost(func() *node { return c.rules.eqns[k].b }) {
			c.make(api.Cact{Kind: api.CaCompose, K: k, Rule: rule, At: at})
		}
	}
}

// deducePairs opens the critical pairs of the last rule.
func (c *completion) deducePairs() {
	last := len(c.rules.eqns) - 1
	for _, p := range c.pairer.pairs(c.rules.eqns, func(one, other int) bool { return one == last || other == last }) {
		c.make(api.Cact{Kind: api.CaDeduce, K: p.one, Rule: p.other, At: slices.Clone(p.at)})
	}
}
