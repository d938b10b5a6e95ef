package types_test

import (
	"math/rand"
	"slices"
	"strconv"

	"madrigal/api"
	"madrigal/types"
)

// maker makes modules, types and terms by chance. Names are few, so that many of them meet.
type maker struct{ r *rand.Rand }

func newMaker(seed int64) maker { return maker{rand.New(rand.NewSource(seed))} }

// once reports true once in so many times.
func (g maker) once(in int) bool { return g.r.Intn(in) == 0 }

func (g maker) name(l ...string) string { return l[g.r.Intn(len(l))] }

// term returns a term of a sort with some of the variables, false if it comes to none.
func (g maker) term(s api.Sig, vars, allowed []int, sort, levels int) (api.Term, bool) {
	var l []api.Term
	for _, n := range allowed {
		if vars[n] == sort {
			l = append(l, v(n), v(n))
		}
	}
	for n, x := range s.Ops {
		if x.Res == sort && (levels > 1 || len(x.Args) == 0) {
			l = append(l, op(n))
		}
	}
	if len(l) == 0 {
		return api.Term{}, false
	}
	t := l[g.r.Intn(len(l))]
	if t.Kind == api.KOp {
		return g.within(s, vars, allowed, t.N, levels)
	}
	return t, true
}

// within returns a term with an operation at its root.
func (g maker) within(s api.Sig, vars, allowed []int, n, levels int) (api.Term, bool) {
	t := op(n)
	for _, sort := range s.Ops[n].Args {
		x, ok := g.term(s, vars, allowed, sort, levels-1)
		if !ok {
			return api.Term{}, false
		}
		t.L = append(t.L, x)
	}
	return t, true
}

// eqn returns an equation, whose variables need not all occur, and need not be numbered in order; false if it comes to none.
func (g maker) eqn(s api.Sig) (api.Eqn, bool) {
	if len(s.Ops) == 0 {
		return api.Eqn{}, false
	}
	var e api.Eqn
	for range g.r.Intn(5) {
		e.Vars = append(e.Vars, g.r.Intn(len(s.Sorts)))
	}
	n := g.r.Intn(len(s.Ops))
	var ok bool
	if e.A, ok = g.within(s, e.Vars, g.r.Perm(len(e.Vars)), n, 3); !ok {
		return api.Eqn{}, false
	}
	in := variablesOf(e.A)
	if e.B, ok = g.term(s, e.Vars, in, s.Ops[n].Res, 3); !ok {
		e.B = e.A
	}
	for g.once(4) {
		sort := g.r.Intn(len(s.Sorts))
		a, ok := g.term(s, e.Vars, in, sort, 2)
		b, is := g.term(s, e.Vars, in, sort, 2)
		if ok && is {
			e.Conds = append(e.Conds, api.Pair{A: a, B: b})
		}
	}
	return e, true
}

func (g maker) eqns(s api.Sig, most int) []api.Eqn {
	var l []api.Eqn
	for range g.r.Intn(most + 1) {
		if e, ok := g.eqn(s); ok {
			l = append(l, e)
		}
	}
	return l
}

// fresh returns some sorts that are, for the most part, not there yet.
func (g maker) fresh(there []string, most int) []string {
	var l []string
	for range g.r.Intn(most + 1) {
		name := g.name("a", "b", "c", "d", "e")
		if !slices.Contains(there, name) && !slices.Contains(l, name) || g.once(30) {
			l = append(l, name)
		}
	}
	return l
}

// op returns an operation over so many sorts.
func (g maker) op(sorts int) api.Op {
	x := api.Op{Name: g.name("f", "g", "_+_", "not_", "0"), Res: g.r.Intn(sorts)}
	many := map[string]int{"f": g.r.Intn(3), "g": g.r.Intn(2), "_+_": 2, "not_": 1}[x.Name]
	for range many {
		x.Args = append(x.Args, g.r.Intn(sorts))
	}
	return x
}

// ops returns some operations that are, for the most part, not there yet.
func (g maker) ops(there []api.Op, sorts, most int) []api.Op {
	var l []api.Op
	for range g.r.Intn(most + 1) {
		if sorts == 0 {
			break
		}
		x := g.op(sorts)
		meets := func(y api.Op) bool { return same(x, y) }
		if !slices.ContainsFunc(there, meets) && !slices.ContainsFunc(l, meets) || g.once(30) {
			l = append(l, x)
		}
	}
	return l
}

// data returns a type.
func (g maker) data() api.Type {
	for range 1000 {
		s := api.Sig{Sorts: g.fresh(nil, 5)}
		s.Ops = g.ops(nil, len(s.Sorts), 6)
		t := api.Type{Sig: s}
		if types.Check(t) == api.OK {
			t.Eqns = g.eqns(s, 4)
			return t
		}
	}
	panic("no type comes about")
}

// uses returns some modules, each once.
func (g maker) uses(of, most int) []int {
	return g.r.Perm(of)[:g.r.Intn(min(of, most)+1)]
}

// text returns a MoText behind other modules, with equations if all else is right.
func (g maker) text(l []api.Module, name string) api.Module {
	m := text(name, g.uses(len(l), 3), api.Type{}, api.Type{})
	f, err := types.Flatten(append(slices.Clip(l), m), len(l))
	if err != api.OK {
		return m
	}
	s := f.Type.Sig
	part := func() api.Type {
		t := api.Type{Sig: api.Sig{Sorts: g.fresh(s.Sorts, 2)}}
		s.Sorts = append(slices.Clip(s.Sorts), t.Sig.Sorts...)
		t.Sig.Ops = g.ops(s.Ops, len(s.Sorts), 3)
		s.Ops = append(slices.Clip(s.Ops), t.Sig.Ops...)
		t.Eqns = g.eqns(s, 2)
		return t
	}
	if !g.once(3) {
		m.Formal = part()
	}
	m.Own = part()
	if len(f.Type.Eqns) > 0 && g.once(2) { // one that is there already
		e := copied(f.Type.Eqns[g.r.Intn(len(f.Type.Eqns))])
		if g.once(2) {
			m.Formal.Eqns = append(m.Formal.Eqns, e)
		} else {
			m.Own.Eqns = append(m.Own.Eqns, e)
		}
	}
	return m
}

// renaming returns a MoRename.
func (g maker) renaming(l []api.Module, name string) api.Module {
	of := g.r.Intn(len(l))
	m := api.Module{Name: name, Kind: api.MoRename, Uses: []int{of}}
	f, _ := types.Flatten(l, of)
	order := g.r.Perm(8)
	for i, s := range f.Type.Sig.Sorts {
		if i < 8 && g.once(2) {
			s = names("a b c d e u v w")[order[i]]
		}
		m.Sorts = append(m.Sorts, s)
	}
	for _, x := range f.Type.Sig.Ops {
		if g.once(3) {
			x.Name = g.name("f", "g", "h", "k")
		}
		m.Ops = append(m.Ops, x.Name)
	}
	return m
}

// actual returns a MoActual, whose operations fit if there are such.
func (g maker) actual(l []api.Module, name string) api.Module {
	m := api.Module{Name: name, Kind: api.MoActual, Uses: []int{g.r.Intn(len(l)), g.r.Intn(len(l))}}
	first, _ := types.Flatten(l, m.Uses[0])
	for range 6 { // mostly one with something to replace
		if !slices.Contains(first.Sorts, true) && !slices.Contains(first.Eq, true) {
			m.Uses[0] = g.r.Intn(len(l))
			first, _ = types.Flatten(l, m.Uses[0])
		}
	}
	if g.once(5) {
		m.Uses[1] = m.Uses[0]
	}
	second, _ := types.Flatten(l, m.Uses[1])
	sorts := slices.Clone(first.Type.Sig.Sorts)
	for i, is := range first.Sorts {
		if is && len(second.Sorts) > 0 {
			n := g.r.Intn(len(second.Sorts))
			m.SortTo = append(m.SortTo, n)
			sorts[i] = second.Type.Sig.Sorts[n]
		}
	}
	for i, x := range first.Type.Sig.Ops {
		if !first.Ops[i] {
			continue
		}
		var fit []int
		for n, y := range second.Type.Sig.Ops {
			x.Name = y.Name
			if written(x, sorts) == written(y, second.Type.Sig.Sorts) {
				fit = append(fit, n)
			}
		}
		if len(fit) > 0 {
			m.OpTo = append(m.OpTo, fit[g.r.Intn(len(fit))])
		} else if len(second.Ops) > 0 {
			m.OpTo = append(m.OpTo, g.r.Intn(len(second.Ops)))
		}
	}
	return m
}

// module returns a module of any kind, which need not be one.
func (g maker) module(l []api.Module, name string) api.Module {
	switch g.r.Intn(7) {
	case 0:
		if len(l) > 0 {
			return g.renaming(l, name)
		}
	case 1, 2, 3:
		if len(l) > 0 {
			return g.actual(l, name)
		}
	}
	return g.text(l, name)
}

// modules returns a list of so many modules.
func (g maker) modules(many int) []api.Module {
	var l []api.Module
	for range 1000 {
		m := g.module(l, moduleName(len(l)))
		if types.CheckModules(append(slices.Clip(l), m)) == api.OK {
			l = append(l, m)
		}
		if len(l) == many {
			return l
		}
	}
	panic("no modules come about")
}

// moduleName is a name for a number.
func moduleName(n int) string { return "M" + strconv.Itoa(n) }

// nudge changes a number in a list a little.
func (g maker) nudge(l []int) {
	if len(l) > 0 {
		l[g.r.Intn(len(l))] += g.r.Intn(5) - 2
	}
}

// nudgeOp changes an operation a little.
func (g maker) nudgeOp(l []api.Op) {
	if len(l) == 0 {
		return
	}
	x := &l[g.r.Intn(len(l))]
	switch g.r.Intn(4) {
	case 0:
		x.Name = g.name("", "_", "__", "f_", "a,b", "f", "_+_", "0", "a b", "_f", "if_then_else_")
	case 1:
		g.nudge(x.Args)
	case 2:
		x.Res += g.r.Intn(3) - 1
	default:
		x.Args = append(x.Args, make([]int, g.r.Intn(10))...)
	}
}

// nudgeTerm changes a term a little.
func (g maker) nudgeTerm(t *api.Term) {
	for len(t.L) > 0 && !g.once(3) {
		t = &t.L[g.r.Intn(len(t.L))]
	}
	switch g.r.Intn(4) {
	case 0:
		t.N += g.r.Intn(5) - 2
	case 1:
		*t = v(g.r.Intn(5) - 1)
	case 2:
		*t = op(g.r.Intn(4), t.L...)
	default:
		t.L = append(t.L, v(0))
	}
}

// nudgeEqn changes an equation a little.
func (g maker) nudgeEqn(l []api.Eqn) {
	if len(l) == 0 {
		return
	}
	e := &l[g.r.Intn(len(l))]
	switch g.r.Intn(5) {
	case 0:
		g.nudge(e.Vars)
	case 1:
		e.Vars = e.Vars[:len(e.Vars)-min(len(e.Vars), 1)]
	case 2:
		g.nudgeTerm(&e.A)
	case 3:
		g.nudgeTerm(&e.B)
	default:
		if e.Conds = append(e.Conds, api.Pair{A: e.A, B: copied(e.A)}); g.once(2) {
			g.nudgeTerm(&e.Conds[len(e.Conds)-1].B)
		}
	}
}

// nudgeNames changes names of sorts, or of operations.
func (g maker) nudgeNames(l []string) {
	if len(l) > 0 {
		l[g.r.Intn(len(l))] = g.name("", "_", "a_b", "a", "b", "f", "_+_", "(", "not_")
	}
}

// flawed returns a module with a small change, which can make it none.
func (g maker) flawed(m api.Module, k int) api.Module {
	m = copied(m)
	part := &m.Own
	if g.once(2) {
		part = &m.Formal
	}
	switch g.r.Intn(16) {
	case 0:
		m.Name = g.name("", "a b", "M0", "M1", "_", "a_", "x", "a,b", "(")
	case 1:
		m.Kind = g.r.Intn(6) - 1
	case 2:
		g.nudge(m.Uses)
	case 3:
		m.Uses = append(m.Uses, g.r.Intn(k+1)-1)
	case 4:
		m.Uses = m.Uses[:len(m.Uses)-min(len(m.Uses), 1)]
	case 5:
		g.nudge(m.SortTo)
	case 6:
		g.nudge(m.OpTo)
	case 7:
		m.SortTo, m.OpTo = append(m.SortTo, make([]int, g.r.Intn(2))...), append(m.OpTo, make([]int, g.r.Intn(2))...)
	case 8:
		m.SortTo, m.OpTo = m.SortTo[:len(m.SortTo)-min(len(m.SortTo), g.r.Intn(2))], m.OpTo[:len(m.OpTo)-min(len(m.OpTo), g.r.Intn(2))]
	case 9:
		g.nudgeNames(m.Sorts)
	case 10:
		g.nudgeNames(m.Ops)
	case 11:
		m.Sorts, m.Ops = append(m.Sorts, names("x")[g.r.Intn(2):]...), append(m.Ops, names("x")[g.r.Intn(2):]...)
	case 12:
		g.nudgeOp(part.Sig.Ops)
	case 13:
		g.nudgeNames(part.Sig.Sorts)
	case 14:
		part.Sig.Sorts, part.Eqns = append(part.Sig.Sorts, names("zz")[g.r.Intn(2):]...), append(part.Eqns, make([]api.Eqn, g.r.Intn(2))...)
	default:
		g.nudgeEqn(part.Eqns)
	}
	return m
}
