package paths_test

import (
	"math/rand"
	"slices"

	"madrigal/api"
)

// maker makes terms, orders, proofs and types by chance.
type maker struct{ r *rand.Rand }

func newMaker(seed int64) maker { return maker{rand.New(rand.NewSource(seed))} }

// once reports true once in so many times.
func (g maker) once(in int) bool { return g.r.Intn(in) == 0 }

func pick[T any](g maker, l []T) T { return l[g.r.Intn(len(l))] }

// some is a signature with operations of up to three arguments. Only equations look at its sorts.
func some() api.Sig {
	return api.Sig{Sorts: []string{"N", "M"}, Ops: []api.Op{{Name: "a"}, {Name: "b", Res: 1}, {Name: "f", Args: []int{0}}, {Name: "g", Args: []int{1}}, {Name: "h", Args: []int{0, 1}}, {Name: "k", Args: []int{1, 1}, Res: 1}, {Name: "m", Args: []int{0, 0, 0}}}}
}

// plain is the same with one sort.
func plain() api.Sig {
	s := signature()
	for _, x := range some().Ops {
		s.Ops = append(s.Ops, o(x.Name, len(x.Args)))
	}
	return s
}

// order returns an order; many operations have equal places.
func (g maker) order(s api.Sig) api.Order {
	var o api.Order
	statuses, places := g.statuses(4), g.r.Perm(5)
	for range s.Ops {
		n := g.r.Intn(4)
		o.Place = append(o.Place, places[n]*50)
		o.Status = append(o.Status, statuses[n])
	}
	return o
}

func (g maker) statuses(many int) []int {
	var l []int
	for range many {
		l = append(l, 1+g.r.Intn(3))
	}
	return l
}

// term returns a term with at most so many levels, of so many variables, with some of the operations.
func (g maker) term(s api.Sig, ops []int, levels, vars int) api.Term {
	if vars > 0 && g.once(4) {
		return v(g.r.Intn(vars))
	}
	var l []int
	for _, n := range ops {
		if levels > 1 || len(s.Ops[n].Args) == 0 {
			l = append(l, n)
		}
	}
	if len(l) == 0 {
		return v(g.r.Intn(max(vars, 1)))
	}
	t := op(pick(g, l))
	for range s.Ops[t.N].Args {
		t.L = append(t.L, g.term(s, ops, levels-1, vars))
	}
	return t
}

func all(s api.Sig) []int {
	var l []int
	for n := range s.Ops {
		l = append(l, n)
	}
	return l
}

// any returns a term of all operations.
func (g maker) any(s api.Sig, levels, vars int) api.Term { return g.term(s, all(s), levels, vars) }

// near returns a term that is like another one, and has no variables that it does not have.
func (g maker) near(s api.Sig, t api.Term) api.Term {
	t = copied(t)
	for range 1 + g.r.Intn(3) {
		g.change(s, &t)
	}
	return t
}

// change changes a node of a term.
func (g maker) change(s api.Sig, t *api.Term) {
	for len(t.L) > 0 && g.once(2) {
		t = &t.L[g.r.Intn(len(t.L))]
	}
	switch g.r.Intn(6) {
	case 0:
		*t = copied(pick(g, parts(*t)))
	case 1:
		g.r.Shuffle(len(t.L), func(i, j int) { t.L[i], t.L[j] = t.L[j], t.L[i] })
	case 2, 3:
		g.replace(s, t)
	case 4:
		n := g.r.Intn(len(s.Ops))
		within := parts(*t)
		out := op(n)
		for range s.Ops[n].Args {
			out.L = append(out.L, copied(pick(g, within)))
		}
		*t = out
	case 5:
		if len(t.L) > 1 {
			t.L[0] = copied(t.L[1])
		}
	}
}

// replace gives a node another operation; what it has too few arguments for is left out, and what there is too little of is there twice.
func (g maker) replace(s api.Sig, t *api.Term) {
	if t.Kind != api.KOp {
		return
	}
	n := g.r.Intn(len(s.Ops))
	out := op(n)
	for i := range s.Ops[n].Args {
		if len(t.L) == 0 {
			out.L = append(out.L, op(t.N))
		} else {
			out.L = append(out.L, copied(t.L[i%len(t.L)]))
		}
	}
	if len(out.L) == len(s.Ops[n].Args) && len(t.L) == len(s.Ops[t.N].Args) {
		*t = out
	}
}

// pair returns two terms that have to do with each other.
func (g maker) pair(s api.Sig, vars int) (api.Term, api.Term) {
	a := g.any(s, 4, vars)
	switch g.r.Intn(5) {
	case 0:
		return a, g.any(s, 3, vars)
	case 1:
		return g.near(s, a), a
	}
	return a, g.near(s, a)
}

// proof returns any proof that a is greater than b, which it has to be.
func (g maker) proof(w words, a, b api.Term) api.PathProof {
	var l []func() api.PathProof
	for i, x := range a.L {
		if w.equal(x, b) {
			l = append(l, func() api.PathProof { return api.PathProof{Rule: api.PathSub, At: i} })
		} else if w.greater(x, b) {
			l = append(l, func() api.PathProof {
				return api.PathProof{Rule: api.PathSub, At: i, L: []api.PathProof{g.proof(w, x, b)}}
			})
		}
	}
	if b.Kind == api.KOp && w.byRoot(a, b) {
		l = append(l, func() api.PathProof { return g.root(w, a, b) })
	}
	if len(l) == 0 {
		return api.PathProof{}
	}
	return pick(g, l)()
}

// byRoot reports whether a is greater than an operation b by a rule that looks at places.
func (w words) byRoot(a, b api.Term) bool {
	if w.o.Place[a.N] != w.o.Place[b.N] {
		return w.o.Place[b.N] < w.o.Place[a.N] && w.exceedsArgs(a, b)
	}
	if w.o.Status[a.N] == api.ByMulti {
		return w.isGreaterMultiset(a, b)
	}
	return w.exceedsArgs(a, b) && w.isGreaterList(w.turned(a), w.turned(b))
}

// root returns any proof by such a rule.
func (g maker) root(w words, a, b api.Term) api.PathProof {
	if w.haveEqualPlaces(a, b) && w.o.Status[a.N] == api.ByMulti {
		return g.multiset(w, a, b)
	}
	p := api.PathProof{Rule: api.PathPlace}
	if w.haveEqualPlaces(a, b) {
		l, m := w.turned(a), w.turned(b)
		for p.At < len(m) && w.equal(l[p.At], m[p.At]) {
			p.At++
		}
		p.Rule = api.PathLex
		if p.At < len(m) {
			p.L = append(p.L, g.proof(w, l[p.At], m[p.At]))
		}
	}
	for _, y := range b.L {
		p.L = append(p.L, g.proof(w, a, y))
	}
	return p
}

// multiset returns any proof by multisets; there need not be as many pairs as can be.
func (g maker) multiset(w words, a, b api.Term) api.PathProof {
	pairings := w.pairings(a, b)
	for _, n := range g.r.Perm(len(pairings)) {
		p := api.PathProof{Rule: api.PathMulti}
		for j, i := range pairings[n] {
			if i >= 0 {
				p.To, p.L = append(p.To, i), append(p.L, api.PathProof{})
				continue
			}
			for _, i := range g.r.Perm(len(a.L)) {
				if !slices.Contains(pairings[n], i) && w.greater(a.L[i], b.L[j]) {
					p.To, p.L = append(p.To, i), append(p.L, g.proof(w, a.L[i], b.L[j]))
					break
				}
			}
		}
		if w.isProof(p, a, b) {
			return p
		}
	}
	return api.PathProof{}
}

// flawed returns a proof with a small change, which may be one still.
func (g maker) flawed(p api.PathProof) api.PathProof {
	p = copied(p)
	x := &p
	for len(x.L) > 0 && g.once(2) {
		x = &x.L[g.r.Intn(len(x.L))]
	}
	switch g.r.Intn(10) {
	case 0:
		x.Rule = g.r.Intn(7) - 1
	case 1:
		x.At += g.r.Intn(3) - 1
	case 2:
		x.At = g.r.Intn(5) - 1
	case 3:
		x.To = append(x.To, g.r.Intn(3))
	case 4:
		if len(x.To) > 0 {
			x.To[g.r.Intn(len(x.To))] = g.r.Intn(5) - 1
		}
	case 5:
		if len(x.To) > 0 {
			x.To = x.To[1:]
		}
	case 6:
		if len(x.L) > 0 {
			i := g.r.Intn(len(x.L))
			x.L = slices.Delete(x.L, i, i+1)
		}
	case 7:
		x.L = slices.Insert(x.L, g.r.Intn(len(x.L)+1), pick(g, []api.PathProof{{}, {Rule: api.PathSub}, copied(*x)}))
	case 8:
		g.r.Shuffle(len(x.L), func(i, j int) { x.L[i], x.L[j] = x.L[j], x.L[i] })
	case 9:
		*x = pick(g, []api.PathProof{{}, {Rule: api.PathSub}, {Rule: api.PathSub, At: 1}, {Rule: api.PathPlace}, {Rule: api.PathLex}, {Rule: api.PathMulti}, {At: 1}, {To: []int{0}}, {L: []api.PathProof{{}}}})
	}
	return p
}

// eqn returns an equation of some operations.
func (g maker) eqn(s api.Sig, ops []int) api.Eqn {
	a := g.term(s, ops, 4, 3)
	for range 50 {
		if a.Kind == api.KOp {
			break
		}
		a = g.term(s, ops, 4, 3)
	}
	if a.Kind != api.KOp {
		a = op(ops[0])
	}
	side := func(levels int) api.Term {
		if g.once(2) {
			return copied(pick(g, parts(a)))
		}
		return g.over(s, ops, levels, a)
	}
	e := eq(3, a, side(3))
	for g.once(5) && len(e.Conds) < 8 {
		e.Conds = append(e.Conds, api.Pair{A: side(2), B: side(2)})
	}
	return e
}

// over returns a term of some operations whose variables occur in another one.
func (g maker) over(s api.Sig, ops []int, levels int, t api.Term) api.Term {
	var vars []api.Term
	for _, x := range parts(t) {
		if x.Kind == api.KVar {
			vars = append(vars, x)
		}
	}
	if len(vars) == 0 {
		vars = []api.Term{copied(t)}
	}
	l := make([]api.Term, 3)
	for i := range l {
		l[i] = pick(g, vars)
	}
	return with(g.term(s, ops, levels, 3), l)
}

// equations returns a type of one sort with at most so many equations, in which no more operations occur than are asked for.
func (g maker) equations(ops, most int) api.Type {
	s := plain()
	l := g.r.Perm(len(s.Ops))[:ops]
	t := data(s)
	for range 1 + g.r.Intn(most) {
		t.Eqns = append(t.Eqns, g.eqn(s, l))
	}
	return t
}
