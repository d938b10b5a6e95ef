package compl_test

import (
	"slices"
	"testing"

	"madrigal/api"
	"madrigal/compl"
	"madrigal/paths"
	"madrigal/sig"
)

// finished is equations, and their completion.
type finished struct {
	completing
	given []api.Eqn
	t     api.Type
	acts  []api.Cact
}

// group returns the laws of groups, and the signature e, i, m with an order.
func group() (completing, []api.Eqn) {
	s := signature("g", o("e", 0), o("i", 0, 0), o("m", 0, 0, 0), o("a", 0), o("b", 0))
	m := func(x, y api.Term) api.Term { return op(2, x, y) }
	x, y, z := v(0), v(1), v(2)
	return completing{s, order(api.ByLeft, 0, 4, 3, 1, 2)}, eqns(eq(1, m(op(0), x), x), eq(1, m(op(1, x), x), op(0)), eq(3, m(m(x, y), z), m(x, m(y, z))))
}

// known returns equations of which the completion is known, with a signature and an order.
func known() ([]completing, [][]api.Eqn) {
	g, laws := group()
	n := numbers()
	x, y, z := v(0), v(1), v(2)
	assoc, one, twice := eq(3, h(h(x, y), z), h(x, h(y, z))), eq(1, h(a(), x), x), eq(1, f(f(x)), x)
	above := func(status int) completing { return completing{abf(), order(status, 0, 1, 4, 3)} }
	return []completing{g, {n.Sig, order(api.ByLeft, 0, 1, 2, 3, 4, 5, 6, 7)}, abfh(), above(api.ByRight), above(api.ByLeft), above(api.ByLeft), above(api.ByMulti), above(api.ByRight), above(api.ByMulti)},
		[][]api.Eqn{
			laws, n.Eqns[:5], example(), eqns(assoc), eqns(assoc, one, eq(0, f(a()), a()), eq(2, f(h(x, y)), h(f(x), f(y)))), eqns(assoc, one, eq(0, f(a()), a()), twice, eq(2, f(h(x, y)), h(f(y), f(x)))),
			eqns(eq(3, h(h(x, y), z), h(x, z)), eq(1, h(x, x), x)), eqns(eq(3, h(h(x, y), h(y, z)), y)), eqns(eq(2, h(h(x, y), y), x)),
		}
}

// completions returns completions: known ones, and ones of equations that were made by chance.
func completions(t *testing.T, from int64, many int) []finished {
	t.Helper()
	var l []finished
	add := func(w completing, given []api.Eqn, most int) {
		x, acts, err := compl.Complete(w.s, w.o, given, most)
		if err == api.OK && len(x.Eqns) > 0 {
			l = append(l, finished{w, given, x, acts})
		}
	}
	w, given := known()
	for i := range w {
		add(w[i], given[i], 20000)
	}
	if len(l) != len(w) {
		t.Errorf("%d of %d known completions", len(l), len(w))
	}
	for seed := from; len(l) < many; seed++ {
		g := newMaker(seed)
		w, given := g.given()
		add(w, given, 150)
	}
	return l
}

// agree checks that two terms have the same normal form, unless that is too much. It returns false then.
func agree(t *testing.T, x api.Type, a, b api.Term) bool {
	t.Helper()
	y, _, err := compl.Reduce(x, a, 20000)
	z, _, wrong := compl.Reduce(x, b, 20000)
	if err == api.ErrLimit || wrong == api.ErrLimit {
		return false
	}
	if err != api.OK || wrong != api.OK || !sig.Same(y, z) {
		t.Fatalf("by %v, %v and %v have the normal forms %v and %v, errors %d, %d", x.Eqns, a, b, y, z, err, wrong)
	}
	return true
}

// moved returns the term to which a step leads at a place, by an equation without conditions, or (back) from which one leads to it; false if there is none.
func (g maker) moved(x api.Type, t api.Term, at []int, e api.Eqn, back bool) (api.Term, bool) {
	from, to := e.A, e.B
	if back {
		from, to = to, from
	}
	stands, _ := sig.At(t, at)
	l, is, _ := sig.Match(from, stands)
	vars := []int{0, len(x.Sig.Sorts) - 1}
	if !is || from.Kind == api.KVar && sortOf(x.Sig, vars, stands) != e.Vars[from.N] {
		return api.Term{}, false
	}
	all := make([]api.Term, len(e.Vars))
	for n, sort := range e.Vars {
		all[n] = g.term(x.Sig, sort, 2, vars)
		if n < len(l) && l[n].Kind != 0 {
			all[n] = l[n]
		}
	}
	next, err := sig.Put(t, at, instance(to, all))
	return next, err == api.OK && len(parts(next)) < 80
}

// moves returns all terms to which one step leads.
func (g maker) moves(x api.Type, t api.Term, back bool) []api.Term {
	var l []api.Term
	places, _ := sig.Paths(t)
	for _, at := range places {
		for _, e := range x.Eqns {
			if next, is := g.moved(x, t, at, e, back); is {
				l = append(l, next)
			}
		}
	}
	return l
}

// P7.7, P7.13: terms that are led to each other by steps, forwards and backwards, have one normal form; so have those to which two steps lead from one term.
func TestOneNormalForm(t *testing.T) {
	walks, local, far := 0, 0, 0
	l := completions(t, 50000, 120)
	for seed := range int64(400) {
		g := newMaker(seed + 51000)
		x := g.equations(pick(g, []api.Sig{some(), few()}), 4, 0)
		o, is, _ := paths.Guess(x)
		_, k, err := compl.Confluent(x, 1000)
		if is && err == api.OK && k == -1 {
			l = append(l, finished{completing: completing{x.Sig, o}, t: x})
		}
	}
	for i, c := range l {
		g := newMaker(int64(i) + 52000)
		if err := paths.Check(c.t, c.o); err != api.OK {
			t.Fatalf("%v does not decrease by %v", c.t.Eqns, c.o)
		}
		for range 6 {
			from := g.instanceOf(c.t.Sig, pick(g, c.t.Eqns), 3)
			x := from
			for range 8 {
				forwards, all := g.moves(c.t, x, false), g.moves(c.t, x, true)
				if len(forwards) > 1 {
					local++
					agree(t, c.t, pick(g, forwards), pick(g, forwards))
				}
				if all = append(all, forwards...); len(all) == 0 {
					break
				}
				x = pick(g, all)
				if agree(t, c.t, from, x) {
					walks++
				}
			}
			if !sig.Same(x, from) {
				far++
			}
		}
	}
	if walks < 2000 || local < 500 || far < 300 {
		t.Errorf("%d walks, %d pairs of steps, %d walks to another term", walks, local, far)
	}
}

// P7.8: completions are accepted with the joins of Confluent, and given equations have one normal form.
func TestCompletions(t *testing.T) {
	for _, c := range completions(t, 60000, 150) {
		joins, k, err := compl.Confluent(c.t, 20000)
		if err != api.OK || k != -1 {
			t.Fatalf("Confluent of %v: %d, error %d", c.t.Eqns, k, err)
		}
		if err := compl.CheckComplete(c.s, c.o, c.given, c.acts, c.t, joins); err != api.OK {
			t.Fatalf("by %v, CheckComplete(%v) with %v: error %d", c.o, c.given, c.t.Eqns, err)
		}
		if err := paths.Check(c.t, c.o); err != api.OK {
			t.Fatalf("by %v, %v do not decrease", c.o, c.t.Eqns)
		}
		for _, e := range c.given {
			agree(t, c.t, e.A, e.B)
			if _, is, err := compl.Join(c.t, e.A, e.B, 20000); !is || err != api.OK {
				t.Fatalf("Join(%v) by %v: error %d", e, c.t.Eqns, err)
			}
		}
	}
	w, laws := group()
	x, _, err := compl.Complete(w.s, w.o, laws, 20000)
	if err != api.OK || len(x.Eqns) != 10 {
		t.Errorf("groups: %v, error %d", x.Eqns, err)
	}
}

// algebra is sets of so many elements for the sorts, and for each operation a table.
type algebra struct {
	s      api.Sig
	sizes  []int
	tables [][]int
}

func (g maker) algebra(s api.Sig) algebra {
	m := algebra{s: s}
	for range s.Sorts {
		m.sizes = append(m.sizes, 1+g.r.Intn(3))
	}
	for _, o := range s.Ops {
		many := 1
		for _, sort := range o.Args {
			many *= m.sizes[sort]
		}
		var table []int
		for range many {
			table = append(table, g.r.Intn(m.sizes[o.Res]))
		}
		m.tables = append(m.tables, table)
	}
	return m
}

// value returns what a term is, with elements for its variables.
func (m algebra) value(x api.Term, l []int) int {
	if x.Kind == api.KVar {
		return l[x.N]
	}
	n := 0
	for i, y := range x.L {
		n = n*m.sizes[m.s.Ops[x.N].Args[i]] + m.value(y, l)
	}
	return m.tables[x.N][n]
}

// holds reports whether an equation holds, whatever its variables are.
func (m algebra) holds(e api.Eqn) bool {
	l := make([]int, len(e.Vars))
	for {
		if m.value(e.A, l) != m.value(e.B, l) {
			return false
		}
		i := 0
		for i < len(l) && l[i] == m.sizes[e.Vars[i]]-1 {
			l[i] = 0
			i++
		}
		if i == len(l) {
			return true
		}
		l[i]++
	}
}

func (m algebra) model(l []api.Eqn) bool {
	return !slices.ContainsFunc(l, func(e api.Eqn) bool { return !m.holds(e) })
}

// cyclic is the group of the numbers below many.
func cyclic(s api.Sig, many int) algebra {
	m := algebra{s: s, sizes: []int{many}}
	var minus, plus []int
	for i := range many {
		minus = append(minus, (many-i)%many)
		for j := range many {
			plus = append(plus, (i+j)%many)
		}
	}
	m.tables = [][]int{{0}, minus, plus, {1 % many}, {2 % many}}
	return m
}

// P7.9: what is inferred holds in each finite algebra in which the given equations hold.
func TestModels(t *testing.T) {
	models, states := 0, 0
	for i, c := range completions(t, 70000, 150) {
		g := newMaker(int64(i) + 71000)
		var l []algebra
		for range 1500 {
			if m := g.algebra(c.s); m.model(c.given) && slices.Max(m.sizes) > 1 {
				l = append(l, m)
			}
			if len(l) == 8 {
				break
			}
		}
		if w, laws := group(); same(c.given, laws) {
			l = append(l, cyclic(w.s, 3), cyclic(w.s, 5))
		}
		models += len(l)
		state := api.Cstate{Open: c.given}
		for k, a := range c.acts {
			if k > 100 && k < len(c.acts)-20 {
				break
			}
			next, err := compl.Infer(c.s, c.o, state, a)
			if err != api.OK {
				t.Fatalf("by %v, Infer(%v, %v): error %d", c.o, state, a, err)
			}
			state = next
			states++
			for _, m := range l {
				if !m.model(state.Rules) || !m.model(state.Open) {
					t.Fatalf("by %v, in %v hold %v, and not %v", c.o, m, c.given, state)
				}
			}
		}
		for _, m := range l {
			if !m.model(c.given) || !m.model(c.t.Eqns) {
				t.Fatalf("by %v, in %v hold %v, and not %v", c.o, m, c.given, c.t.Eqns)
			}
		}
	}
	if models < 400 || states < 1000 {
		t.Errorf("%d models, %d states", models, states)
	}
}

// ruleOrder compares rules by the terms of both sides.
func ruleOrder(e, f api.Eqn) int {
	if order := sig.Compare(e.A, f.A); order != 0 {
		return order
	}
	return sig.Compare(e.B, f.B)
}

// P7.10: given equations in other orders, with sides exchanged, and with others that follow, have the same completion.
func TestOneCompletion(t *testing.T) {
	others := 0
	for i, c := range completions(t, 80000, 150) {
		g := newMaker(int64(i) + 81000)
		want := slices.SortedFunc(slices.Values(c.t.Eqns), ruleOrder)
		for range 6 {
			l := slices.Clone(c.given)
			if g.once(2) {
				l = append(l, pick(g, c.t.Eqns))
			}
			state := api.Cstate{Open: c.given}
			for _, a := range c.acts[:g.r.Intn(min(len(c.acts), 40)+1)] {
				state, _ = compl.Infer(c.s, c.o, state, a)
			}
			if more := append(state.Rules, state.Open...); len(more) > 0 && g.once(2) {
				l = append(l, pick(g, more))
			}
			for k, e := range l {
				if g.once(2) {
					l[k] = right(e.Vars, e.B, e.A)
				}
			}
			g.r.Shuffle(len(l), func(i, j int) { l[i], l[j] = l[j], l[i] })
			x, _, err := compl.Complete(c.s, c.o, l, 20000)
			if err == api.ErrLimit || err == api.ErrHalt {
				continue
			}
			others++
			if got := slices.SortedFunc(slices.Values(x.Eqns), ruleOrder); err != api.OK || !same(got, want) {
				t.Fatalf("by %v, %v and %v have the completions %v and %v, error %d", c.o, c.given, l, want, got, err)
			}
		}
	}
	if others < 500 {
		t.Errorf("%d other completions", others)
	}
}

// P7.11: no rule of a completion can be used on another one, nor on its own right side.
func TestReduced(t *testing.T) {
	uses := func(e api.Eqn, x api.Term) bool {
		return slices.ContainsFunc(parts(x), func(y api.Term) bool {
			_, is, _ := sig.Match(e.A, y)
			return is
		})
	}
	rules := 0
	for _, c := range completions(t, 90000, 250) {
		rules += len(c.t.Eqns)
		for i, e := range c.t.Eqns {
			for j, f := range c.t.Eqns {
				if uses(e, f.B) || i != j && uses(e, f.A) {
					t.Fatalf("by %v, the completion of %v is %v: the rule %d can be used on the rule %d", c.o, c.given, c.t.Eqns, i, j)
				}
			}
		}
	}
	if rules < 500 {
		t.Errorf("%d rules", rules)
	}
}
