package show

import (
	"strconv"

	"madrigal/api"
)

// Nodes without places.

func node(kind int, l ...api.Node) api.Node { return api.Node{Kind: kind, L: l} }

func named(kind int, s string, l ...api.Node) api.Node { return api.Node{Kind: kind, S: s, L: l} }

func numbered(kind, n int, l ...api.Node) api.Node { return api.Node{Kind: kind, N: n, L: l} }

func list(l ...api.Node) api.Node { return node(api.NdList, l...) }

func name(s string) api.Node { return named(api.NdName, s) }

// nodes makes a node of each element of a list.
func nodes[T any](l []T, one func(T) api.Node) []api.Node {
	var out []api.Node
	for _, x := range l {
		out = append(out, one(x))
	}
	return out
}

// terms makes trees of terms over a signature. What cannot be written is the error wrong.
type terms struct {
	*signature
	wrong        api.Errno
	looked, deep int
}

func (m *terms) refuse() { panic(failure{m.wrong}) }

// grown returns a tree that a function makes.
func (x *signature) grown(wrong api.Errno, grow func(m *terms) api.Node) (api.Node, api.Errno) {
	var n api.Node
	m := &terms{signature: x, wrong: wrong}
	if err := attempt(func() { n = grow(m) }); err != api.OK {
		return api.Node{}, err
	}
	if !withinLimits(n) {
		return api.Node{}, api.ErrLimit
	}
	return n, api.OK
}

// tree returns a term as a tree.
func (x *signature) tree(vars []string, t api.Term) (api.Node, api.Errno) {
	if !x.canName(vars) {
		return api.Node{}, api.ErrNames
	}
	return x.grown(api.ErrTerm, func(m *terms) api.Node { return m.term(t, vars) })
}

// enter begins with a part that has a node of its own in the tree, so that no more is looked at than can be written.
func (m *terms) enter() {
	m.looked++
	m.deep++
	if m.looked > api.MaxTree || m.deep > api.MaxUnder {
		panic(failure{api.ErrLimit})
	}
}

func (m *terms) leave() { m.deep-- }

// element returns an element of a list that has to have it.
func element[T any](m *terms, l []T, i int) T {
	if i < 0 || i >= len(l) {
		m.refuse()
	}
	return l[i]
}

func (m *terms) sort(i int) api.Node { return name(element(m, m.Sorts, i)) }

// term makes the tree of a term, whose variables have these names.
func (m *terms) term(t api.Term, vars []string) api.Node {
	m.enter()
	defer m.leave()
	switch {
	case t.Kind == api.KVar && len(t.L) == 0:
		return named(api.NdApp, element(m, vars, t.N))
	case t.Kind == api.KOp:
		return m.application(t, vars)
	}
	m.refuse()
	return api.Node{}
}

// application makes the tree of a term with an operation: with its sort, if the name alone does not tell which one it is.
func (m *terms) application(t api.Term, vars []string) api.Node {
	o := element(m, m.Ops, t.N)
	if len(t.L) != len(o.Args) {
		m.refuse()
	}
	n := named(api.NdApp, o.Name, nodes(t.L, func(x api.Term) api.Node { return m.term(x, vars) })...)
	if m.uses[use{o.Name, len(o.Args)}] > 1 {
		return named(api.NdOf, element(m, m.Sorts, o.Res), n)
	}
	return n
}

// equalities makes a list of pairs that are to be equal.
func (m *terms) equalities(l []api.Pair, vars []string) api.Node {
	return list(nodes(l, func(p api.Pair) api.Node { return m.equality(p, vars) })...)
}

func (m *terms) equality(p api.Pair, vars []string) api.Node {
	a := m.term(p.A, vars)
	b := m.term(p.B, vars)
	return node(api.NdEq, a, b)
}

// digits returns a number as it is written.
func (m *terms) digits(n int) string {
	if n < 0 || n > api.MaxNum {
		m.refuse()
	}
	return strconv.Itoa(n)
}

// fresh returns a function that makes names of a letter and a number, with as many ' behind as are needed so that nothing has the name.
func (m *terms) fresh(letter string, isTaken func(name string) bool) func(number int) string {
	return func(number int) string {
		name := letter + strconv.Itoa(number)
		for isTaken(name) {
			name += "'"
		}
		if len(name) > api.MaxName {
			m.refuse()
		}
		return name
	}
}
