package show

import (
	"slices"

	"madrigal/api"
)

// scope is what a behaviour sees: gates and variables by their names, and how new ones are named.
type scope struct {
	gates, vars    []string
	gate, variable func(number int) string
}

// kind is how many elements behaviours of a kind have, and how their trees are made.
type kind struct {
	elements int
	grow     func(b api.Beh, s scope) api.Node
}

// trees makes trees of behaviours of a specification.
type trees struct {
	*terms
	procs []api.Proc
	kinds map[int]kind
}

func newTrees(m *terms, procs []api.Proc) *trees {
	g := &trees{terms: m, procs: procs}
	g.kinds = map[int]kind{
		api.BStop:    {0, g.stop},
		api.BExit:    {0, g.exit},
		api.BPre:     {1, g.action},
		api.BChoice:  {2, g.choice},
		api.BPar:     {2, g.parallel},
		api.BHide:    {1, g.hide},
		api.BEnable:  {2, g.enabling},
		api.BDisable: {2, g.disabling},
		api.BGuard:   {1, g.guard},
		api.BLet:     {1, g.let},
		api.BSome:    {1, g.some},
		api.BCall:    {0, g.call},
		api.BWait:    {1, g.wait},
	}
	return g
}

// scope returns what is seen where gates and variables have these names. A new one has a number that no other one has, so that its name can be one of these names alone.
func (g *trees) scope(gates, vars []string) scope {
	knownGates, knownVars := setOf(gates), setOf(vars)
	return scope{
		gates:    gates,
		vars:     vars,
		gate:     g.fresh("h", func(s string) bool { return knownGates[s] }),
		variable: g.fresh("v", func(s string) bool { return knownVars[s] || g.isReserved(s) }),
	}
}

func setOf(l []string) map[string]bool {
	set := map[string]bool{}
	for _, s := range l {
		set[s] = true
	}
	return set
}

// behaviour makes the tree of a behaviour.
func (g *trees) behaviour(b api.Beh, s scope) api.Node {
	g.enter()
	defer g.leave()
	k, ok := g.kinds[b.Kind]
	if !ok || len(b.L) != k.elements {
		g.refuse()
	}
	return k.grow(b, s)
}

// bind returns new variables as nodes of a kind, and what is seen behind them.
func (g *trees) bind(kind int, sorts []int, s scope) ([]api.Node, scope) {
	s.vars = slices.Clone(s.vars)
	l := nodes(sorts, func(sort int) api.Node {
		name := s.variable(len(s.vars))
		s.vars = append(s.vars, name)
		return named(kind, name, g.sort(sort))
	})
	return l, s
}

// bindSome is bind of at least one variable.
func (g *trees) bindSome(sorts []int, s scope) ([]api.Node, scope) {
	if len(sorts) == 0 {
		g.refuse()
	}
	return g.bind(api.NdDecl, sorts, s)
}

func (g *trees) gatesOf(l []int, s scope) api.Node {
	return list(nodes(l, func(gate int) api.Node { return name(element(g.terms, s.gates, gate)) })...)
}

func (g *trees) stop(api.Beh, scope) api.Node { return node(api.NdStop) }

func (g *trees) exit(b api.Beh, s scope) api.Node {
	return node(api.NdExit, nodes(b.Offers, func(o api.Offer) api.Node {
		if o.In {
			return node(api.NdAny, g.sort(o.Sort))
		}
		return node(api.NdGive, g.term(o.T, s.vars))
	})...)
}

// action refuses conditions ahead of which no offer stands: in a text, they would be the gates of a call.
func (g *trees) action(b api.Beh, s scope) api.Node {
	gate := "i"
	if b.Gate != api.GInt {
		gate = element(g.terms, s.gates, b.Gate)
	}
	if len(b.Offers) == 0 && len(b.Conds) > 0 {
		g.refuse()
	}
	offers, inner := g.offers(b.Offers, s)
	conds := g.equalities(b.Conds, inner.vars)
	window := g.window(b.Lo, b.Hi)
	behind := g.behaviour(b.L[0], inner)
	return node(api.NdPre, name(gate), list(offers...), conds, window, behind)
}

// offers returns the nodes of offers, whose values do not see the variables that they bind.
func (g *trees) offers(l []api.Offer, s scope) ([]api.Node, scope) {
	inner := s
	all := nodes(l, func(o api.Offer) api.Node {
		if !o.In {
			return node(api.NdGive, g.term(o.T, s.vars))
		}
		var taken []api.Node
		taken, inner = g.bind(api.NdTake, []int{o.Sort}, inner)
		return taken[0]
	})
	return all, inner
}

func (g *trees) window(lo, hi int) api.Node {
	switch {
	case lo == 0 && hi == -1:
		return list()
	case lo == hi:
		return list(numbered(api.NdWin, 1, name(g.digits(lo))))
	case hi == -1:
		return list(numbered(api.NdWin, 2, name(g.digits(lo))))
	}
	return list(numbered(api.NdWin, 3, name(g.digits(lo)), name(g.digits(hi))))
}

// both makes the trees of two elements that see the same.
func (g *trees) both(b api.Beh, s scope) (api.Node, api.Node) {
	first := g.behaviour(b.L[0], s)
	second := g.behaviour(b.L[1], s)
	return first, second
}

func (g *trees) choice(b api.Beh, s scope) api.Node {
	first, second := g.both(b, s)
	return node(api.NdChoice, first, second)
}

func (g *trees) disabling(b api.Beh, s scope) api.Node {
	first, second := g.both(b, s)
	return node(api.NdDisable, first, second)
}

func (g *trees) parallel(b api.Beh, s scope) api.Node {
	sign := "|["
	if len(b.Gates) == 0 {
		sign = "|||"
	}
	gates := g.gatesOf(b.Gates, s)
	first, second := g.both(b, s)
	return named(api.NdPar, sign, gates, first, second)
}

func (g *trees) hide(b api.Beh, s scope) api.Node {
	if b.N < 1 || b.N > api.MaxGates {
		g.refuse()
	}
	inner := s
	inner.gates = slices.Clone(s.gates)
	var hidden []api.Node
	for range b.N {
		gate := s.gate(len(inner.gates))
		inner.gates = append(inner.gates, gate)
		hidden = append(hidden, name(gate))
	}
	return node(api.NdHide, list(hidden...), g.behaviour(b.L[0], inner))
}

func (g *trees) enabling(b api.Beh, s scope) api.Node {
	first := g.behaviour(b.L[0], s)
	vars, inner := g.bind(api.NdDecl, b.Sorts, s)
	second := g.behaviour(b.L[1], inner)
	return node(api.NdEnable, list(vars...), first, second)
}

func (g *trees) guard(b api.Beh, s scope) api.Node {
	if len(b.Conds) == 0 {
		g.refuse()
	}
	conds := g.equalities(b.Conds, s.vars)
	return node(api.NdGuard, conds, g.behaviour(b.L[0], s))
}

// let makes binds of variables, whose values do not see them.
func (g *trees) let(b api.Beh, s scope) api.Node {
	if len(b.T) != len(b.Sorts) {
		g.refuse()
	}
	vars, inner := g.bindSome(b.Sorts, s)
	for i, t := range b.T {
		value := g.term(t, s.vars)
		vars[i] = named(api.NdBind, vars[i].S, vars[i].L[0], value)
	}
	return node(api.NdLet, list(vars...), g.behaviour(b.L[0], inner))
}

func (g *trees) some(b api.Beh, s scope) api.Node {
	vars, inner := g.bindSome(b.Sorts, s)
	return node(api.NdSome, list(vars...), g.behaviour(b.L[0], inner))
}

// nameOf returns the name of a process. One that is not read as a name cannot be written.
func (g *trees) nameOf(p api.Proc) string {
	if !isName(p.Name) {
		g.refuse()
	}
	return p.Name
}

func (g *trees) call(b api.Beh, s scope) api.Node {
	process := g.nameOf(element(g.terms, g.procs, b.N))
	gates := g.gatesOf(b.Gates, s)
	values := list(nodes(b.T, func(t api.Term) api.Node { return g.term(t, s.vars) })...)
	return named(api.NdCall, process, gates, values)
}

func (g *trees) wait(b api.Beh, s scope) api.Node {
	g.digits(b.Lo)
	return numbered(api.NdWait, b.Lo, g.behaviour(b.L[0], s))
}
