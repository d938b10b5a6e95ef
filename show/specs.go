package show

import (
	"slices"

	"madrigal/api"
)

// specs makes trees of specifications.
type specs struct {
	*trees
	api.Spec
}

// specTree returns a specification as a tree.
func (x *signature) specTree(s api.Spec) (api.Node, api.Errno) {
	if !areGates(s.Gates) {
		return api.Node{}, api.ErrNames
	}
	return x.grown(api.ErrSpec, func(m *terms) api.Node {
		g := &specs{newTrees(m, s.Procs), s}
		return g.specification()
	})
}

// specification looks at the names of processes first: a process that has none is refused however large the tree would be.
func (g *specs) specification() api.Node {
	for _, p := range g.Procs {
		g.nameOf(p)
	}
	gates := g.gateList(g.Gates)
	data := list(g.data())
	main := g.behaviour(g.Main, g.scope(g.Gates, nil))
	ends := g.function(g.end(g.Main, nil))
	where := list(nodes(g.Procs, g.process)...)
	return named(api.NdSpec, "spec", gates, list(), ends, data, main, where)
}

func (g *specs) gateList(names []string) api.Node { return list(nodes(names, name)...) }

func (g *specs) sortList(l []int) api.Node { return list(nodes(l, g.sort)...) }

// data makes the type, which stands for itself.
func (g *specs) data() api.Node {
	return named(api.NdType, "data",
		list(), list(), list(), list(),
		list(nodes(g.Sorts, name)...),
		list(nodes(g.Ops, g.operation)...),
		list(nodes(g.Type.Eqns, g.equation)...))
}

func (g *specs) operation(o api.Op) api.Node {
	n := numbered(api.NdOp, 4*api.MaxPrio+api.SideNone, g.sortList(o.Args), g.sort(o.Res))
	n.S = o.Name
	return n
}

// equation makes a list of its own for an equation, of the sort of its first side.
func (g *specs) equation(e api.Eqn) api.Node {
	vars, decls := g.params("x", e.Vars)
	conds := g.equalities(e.Conds, vars)
	sides := g.equality(api.Pair{A: e.A, B: e.B}, vars)
	sort := element(g.terms, g.Sorts, g.sortOf(e.A, e.Vars))
	return named(api.NdEqns, sort, decls, list(node(api.NdEqn, conds, sides)))
}

// params names variables by a letter and a number.
func (g *specs) params(letter string, sorts []int) ([]string, api.Node) {
	fresh := g.fresh(letter, g.isReserved)
	var vars []string
	decls := nodes(sorts, func(sort int) api.Node {
		vars = append(vars, fresh(len(vars)))
		return named(api.NdDecl, vars[len(vars)-1], g.sort(sort))
	})
	return vars, list(decls...)
}

// sortOf returns the sort of a term that can be written.
func (g *specs) sortOf(t api.Term, vars []int) int {
	if t.Kind == api.KVar {
		return vars[t.N]
	}
	return g.Ops[t.N].Res
}

func (g *specs) process(p api.Proc) api.Node {
	if p.Gates < 0 {
		g.refuse()
	}
	if p.Gates > api.MaxTree {
		panic(failure{api.ErrLimit})
	}
	fresh := g.fresh("g", func(string) bool { return false })
	var gates []string
	for i := range p.Gates {
		gates = append(gates, fresh(i))
	}
	vars, params := g.params("p", p.Vars)
	ends := g.function(p.Func)
	body := g.behaviour(p.B, g.scope(gates, vars))
	return named(api.NdProc, p.Name, g.gateList(gates), params, ends, body, list())
}

func (g *specs) function(f api.Func) api.Node {
	if !f.Ends {
		return numbered(api.NdFunc, 0)
	}
	return numbered(api.NdFunc, 1, nodes(f.Sorts, g.sort)...)
}

// end returns how a behaviour that can be written ends by its form: as the first part does that can end it. The variables that it sees have sorts.
func (g *specs) end(b api.Beh, vars []int) api.Func {
	switch b.Kind {
	case api.BExit:
		return g.endOf(b.Offers, vars)
	case api.BCall:
		return g.Procs[b.N].Func
	case api.BPre:
		return g.end(b.L[0], slices.Concat(vars, taken(b.Offers)))
	case api.BLet, api.BSome:
		return g.end(b.L[0], slices.Concat(vars, b.Sorts))
	case api.BPar, api.BHide, api.BGuard, api.BWait:
		return g.end(b.L[0], vars)
	case api.BEnable:
		return g.end(b.L[1], slices.Concat(vars, b.Sorts))
	case api.BChoice, api.BDisable:
		if f := g.end(b.L[0], vars); f.Ends {
			return f
		}
		return g.end(b.L[1], vars)
	}
	return api.Func{}
}

// endOf returns how an exit with these offers ends.
func (g *specs) endOf(l []api.Offer, vars []int) api.Func {
	f := api.Func{Ends: true}
	for _, o := range l {
		if !o.In {
			o.Sort = g.sortOf(o.T, vars)
		}
		f.Sorts = append(f.Sorts, o.Sort)
	}
	return f
}

// taken returns the sorts of the variables that offers bind.
func taken(l []api.Offer) []int {
	var sorts []int
	for _, o := range l {
		if o.In {
			sorts = append(sorts, o.Sort)
		}
	}
	return sorts
}
