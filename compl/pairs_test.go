package compl_test

import (
	"slices"
	"testing"

	"madrigal/api"
	"madrigal/compl"
	"madrigal/sig"
)

// crit is a critical pair without conditions, of variables of the sort 0.
func crit(one, other int, at []int, vars int, a, b api.Term) api.Crit {
	return api.Crit{One: one, Other: other, At: at, Vars: make([]int, vars), A: a, B: b}
}

// conditional is a pair with conditions.
func conditional(c api.Crit, l ...api.Term) api.Crit {
	c.Conds = eq(0, a(), a(), l...).Conds
	return c
}

// P7.3: critical pairs, and their order.
func TestPairs(t *testing.T) {
	w, s := whole(), abf()
	x, y, z := v(0), v(1), v(2)
	root, inner := []int{}, []int{0}
	assoc := eq(3, h(h(x, y), z), h(x, h(y, z)))
	for i, c := range []struct {
		t    api.Type
		want []api.Crit
	}{
		{data(s, w.Eqns[:2]...), []api.Crit{crit(0, 0, inner, 1, f(x), f(x)), crit(0, 1, inner, 0, f(a()), b())}},
		{w, []api.Crit{crit(0, 0, inner, 1, f(x), f(x)), crit(0, 1, inner, 0, f(a()), b()), crit(0, 2, inner, 0, f(b()), a())}},
		{data(s), nil}, {data(s, eq(0, a(), b())), nil}, {data(s, eq(0, a(), b()), eq(0, a(), f(a()))), []api.Crit{crit(1, 0, root, 0, b(), f(a()))}}, {data(s, eq(0, f(a()), a()), eq(0, f(b()), b()), eq(1, h(x, x), x)), nil},
		{data(s, eq(0, f(a()), a()), eq(0, f(a()), b()), eq(1, f(x), x)), []api.Crit{crit(1, 0, root, 0, a(), b()), crit(2, 0, root, 0, a(), a()), crit(2, 1, root, 0, b(), a())}},
		{data(s, assoc), []api.Crit{crit(0, 0, inner, 4, h(h(x, h(y, z)), v(3)), h(h(x, y), h(z, v(3))))}},
		{data(s, eq(2, h(x, y), x), eq(2, h(x, y), y)), []api.Crit{crit(1, 0, root, 2, x, y)}},
		{data(s, eq(2, h(x, y), f(y)), eq(2, h(y, f(x)), f(x))), []api.Crit{crit(1, 0, root, 1, f(f(x)), f(x))}},
		{data(s, eq(1, h(f(x), f(f(x))), x), eq(1, f(f(x)), a())), []api.Crit{crit(0, 1, []int{0}, 1, h(a(), f(f(f(x)))), f(x)), crit(0, 1, []int{1}, 1, h(f(x), a()), x), crit(0, 1, []int{1, 0}, 1, h(f(f(x)), f(a())), f(x)), crit(1, 1, inner, 0, f(a()), a())}},
		{data(s, eq(0, h(f(a()), a()), b()), eq(0, a(), b()), eq(0, f(a()), a())), []api.Crit{crit(0, 2, []int{0}, 0, h(a(), a()), b()), crit(0, 1, []int{0, 0}, 0, h(f(b()), a()), b()), crit(0, 1, []int{1}, 0, h(f(a()), b()), b()), crit(2, 1, inner, 0, f(b()), a())}},
		{data(s, eq(1, h(x, f(x)), a()), eq(1, h(x, x), b())), nil},
		{data(s, eq(0, h(h(h(h(a(), a()), a()), a()), h(a(), a())), b()), eq(0, a(), b())), []api.Crit{
			crit(0, 1, []int{0, 0, 0, 0}, 0, h(h(h(h(b(), a()), a()), a()), h(a(), a())), b()), crit(0, 1, []int{0, 0, 0, 1}, 0, h(h(h(h(a(), b()), a()), a()), h(a(), a())), b()),
			crit(0, 1, []int{0, 0, 1}, 0, h(h(h(h(a(), a()), b()), a()), h(a(), a())), b()), crit(0, 1, []int{0, 1}, 0, h(h(h(h(a(), a()), a()), b()), h(a(), a())), b()),
			crit(0, 1, []int{1, 0}, 0, h(h(h(h(a(), a()), a()), a()), h(b(), a())), b()), crit(0, 1, []int{1, 1}, 0, h(h(h(h(a(), a()), a()), a()), h(a(), b())), b())}},
		{data(s, eq(4, f(f(v(3))), v(3)), eq(3, h(v(2), f(v(1))), h(v(1), v(2)))), []api.Crit{crit(0, 0, inner, 1, f(x), f(x)), crit(1, 0, []int{1}, 2, h(x, y), h(f(y), x))}},
		{data(s, eq(1, f(f(x)), x, x, a(), f(x), b()), eq(2, f(h(x, y)), y, y, h(x, y))), []api.Crit{
			conditional(crit(0, 0, inner, 1, f(x), f(x)), f(x), a(), f(f(x)), b(), x, a(), f(x), b()),
			conditional(crit(0, 1, inner, 2, f(x), h(y, x)), h(y, x), a(), f(h(y, x)), b(), x, h(y, x))}},
		{data(s, eq(2, f(h(x, y)), a(), x, y), eq(1, h(f(x), a()), b(), b(), x)), []api.Crit{conditional(crit(0, 1, inner, 1, f(b()), a()), f(x), a(), b(), x), conditional(crit(1, 0, inner, 2, h(a(), a()), b()), b(), h(x, y), x, y)}},
	} {
		l, err := compl.Pairs(c.t)
		if err != api.OK || !same(l, c.want) {
			t.Errorf("%d: Pairs: %v, error %d; want %v", i, l, err, c.want)
		}
		if l, err := (words{c.t}).pairs(); err != api.OK || !same(l, c.want) {
			t.Errorf("%d: the words: %v, error %d; want %v", i, l, err, c.want)
		}
	}
	// p(x, g(y)) = x and g(c) = a, with c and y of the sort M: the sorts stand in the order of the new variables.
	sorts := data(signature("N M", o("a", 0), o("p", 1, 0, 0), o("q", 0, 1, 0), o("m", 1, 1)),
		api.Eqn{Vars: []int{1, 0}, A: op(1, op(3, v(0)), op(2, v(1), v(0))), B: op(2, op(0), v(0))},
		api.Eqn{Vars: []int{0, 1, 1}, A: op(2, v(0), op(3, v(2))), B: op(1, v(2), v(0))})
	want := []api.Crit{{One: 0, Other: 1, At: []int{1}, Vars: []int{1, 0}, A: op(1, op(3, op(3, v(0))), op(1, v(0), v(1))), B: op(2, op(0), op(3, v(0)))}}
	if l, err := compl.Pairs(sorts); err != api.OK || !same(l, want) {
		t.Errorf("two sorts: %v, error %d; want %v", l, err, want)
	}
}

// pairing checks how many pairs there are, or that Pairs and those that call it return ErrLimit.
func pairing(t *testing.T, what string, x api.Type, many int, want api.Errno) {
	t.Helper()
	l, err := compl.Pairs(x)
	if err != want || len(l) != many {
		t.Errorf("%s: %d pairs, error %d; want %d, error %d", what, len(l), err, many, want)
	}
	if want == api.OK {
		if err := compl.CheckConfluent(x, make([]api.Rjoin, many+1)); err != api.ErrJoin {
			t.Errorf("%s: CheckConfluent: error %d", what, err)
		}
		return
	}
	for _, most := range []int{-1, 0, 20000} {
		if joins, k, err := compl.Confluent(x, most); err != want || k != 0 || len(joins) > 0 {
			t.Errorf("%s: Confluent: %d, error %d", what, k, err)
		}
	}
	if err := compl.CheckConfluent(x, make([]api.Rjoin, 3)); err != want {
		t.Errorf("%s: CheckConfluent: error %d", what, err)
	}
}

// alike returns so many equations with the same left side.
func alike(many int, x api.Term) []api.Eqn { return slices.Repeat([]api.Eqn{eq(0, x, op(0))}, many) }

// listed is a list of terms, by an operation.
func listed(n int, l ...api.Term) api.Term {
	x := op(0)
	for _, y := range slices.Backward(l) {
		x = op(n, y, x)
	}
	return x
}

// tangle returns two lists, of which a unifier makes the last variable of so many chains a term that is doubled so many times; and makes those of two chains the same.
func tangle(chains, times int) (api.Term, api.Term) {
	var l, m []api.Term
	n := 0
	for range chains {
		for range times {
			l, m = append(l, v(n), v(n)), append(m, h(v(n), v(n)), v(n+1))
			n++
		}
		n++
	}
	if chains == 2 {
		l, m = append(l, v(n), v(n)), append(m, v(times), v(n-1))
	}
	return listed(3, l...), listed(3, m...)
}

// P7.3: what is too much.
func TestPairLimits(t *testing.T) {
	s := abf()
	s.Ops = append(s.Ops, o("g", 0, 0))
	g := func(x api.Term) api.Term { return op(4, x) }
	full := slices.Concat(alike(200, f(a())), alike(11, f(b())), alike(10, f(f(f(g(a()))))))
	pairing(t, "20000 pairs", data(s, full...), 20000, api.OK)
	pairing(t, "20001 pairs", data(s, append(full, alike(2, g(b()))...)...), 0, api.ErrLimit)
	pairing(t, "79800 pairs", data(s, alike(400, f(a()))...), 0, api.ErrLimit)

	one, other := tangle(2, 16)
	pairing(t, "a long unification", data(s, eq(64, f(one), a()), eq(64, g(other), a())), 0, api.OK)
	pairing(t, "a long unification at the root", data(s, eq(64, f(one), a()), eq(64, f(other), a())), 0, api.ErrLimit)
	pairing(t, "a long unification within", data(s, eq(64, g(f(one)), a()), eq(64, f(other), a())), 0, api.ErrLimit)
	one, other = tangle(2, 3)
	pairing(t, "a short unification", data(s, eq(64, f(one), a()), eq(64, f(other), a())), 1, api.OK)
	one, other = tangle(1, 11)
	pairing(t, "a unifier of 4095 nodes", data(s, eq(64, f(one), a()), eq(64, f(other), a())), 0, api.ErrLimit)
	one, other = tangle(1, 9)
	pairing(t, "a unifier of 1023 nodes", data(s, eq(64, f(one), a()), eq(64, f(other), a())), 1, api.OK)

	x := v(0)
	within := func(l ...api.Eqn) api.Type { return data(s, append(l, eq(0, g(bush(3, 2, 999)), a()))...) }
	beyond := func(l ...api.Eqn) api.Type { return data(s, append(l, eq(0, g(bush(3, 2, 1000)), a()))...) }
	for i, e := range []api.Eqn{eq(1, f(g(x)), h(x, x)), eq(1, f(g(x)), a(), h(x, x), x), eq(1, f(g(x)), a(), a(), h(x, x)), eq(1, h(f(g(x)), h(x, x)), a())} {
		many := 1
		if i == 3 {
			pairing(t, "a left side of 2000 nodes", data(s, e, eq(0, g(bush(3, 2, 997)), a())), many, api.OK)
		} else {
			pairing(t, "1999 nodes", within(e), many, api.OK)
		}
		pairing(t, "2001 nodes", beyond(e), 0, api.ErrLimit)
	}
	pairing(t, "a left side of 2001 nodes that goes", data(s, eq(1, f(g(x)), a()), eq(0, g(bush(3, 2, 1999)), a())), 1, api.OK)
	pairing(t, "201 deep by a right side", data(s, eq(1, f(f(g(x))), x), eq(0, g(a()), times(2, 199, a()))), 0, api.ErrLimit)
	pairing(t, "200 deep by a right side", data(s, eq(1, f(f(g(x))), x), eq(0, g(a()), times(2, 197, a()))), 1, api.OK)
	conds := data(s, eq(1, f(g(x)), x, x, a()), eq(1, g(x), h(x, x), h(x, a()), f(x)))
	pairing(t, "conditions of both", conds, 1, api.OK)
	pairing(t, "conditions of the other one that are too great", data(s, eq(1, f(f(g(x))), x), eq(0, g(a()), a(), times(2, 199, a()), a())), 1, api.OK)
}

// P7.3: the errors of what is no type.
func TestPairErrors(t *testing.T) {
	for i, x := range noTypes() {
		if l, err := compl.Pairs(x); err != api.ErrType || len(l) > 0 {
			t.Errorf("the type %d: Pairs: error %d", i, err)
		}
		for _, most := range []int{-1, 10} {
			if l, k, err := compl.Confluent(x, most); err != api.ErrType || k != 0 || len(l) > 0 {
				t.Errorf("the type %d: Confluent: %d, error %d", i, k, err)
			}
		}
		if err := compl.CheckConfluent(x, nil); err != api.ErrType {
			t.Errorf("the type %d: CheckConfluent: error %d", i, err)
		}
	}
}

// P7.3, P7.12: pairs that are joined, and the first one that is not.
func TestConfluent(t *testing.T) {
	w, s := whole(), abf()
	loop, ends := eq(1, h(v(0), a()), h(v(0), a())), eq(1, h(v(0), b()), b())
	ab := alike(2, f(a()))
	ab[1].B = b()
	for i, c := range []struct {
		t     api.Type
		most  int
		joins []api.Rjoin
		k     int
		err   api.Errno
	}{
		{w, 100, []api.Rjoin{{}, {A: steps(step(2))}, {A: steps(step(1))}}, -1, 0}, {w, 1, []api.Rjoin{{}, {A: steps(step(2))}, {A: steps(step(1))}}, -1, 0}, {w, 0, nil, 0, api.ErrLimit}, {data(s, w.Eqns[:2]...), 100, nil, 1, 0}, {data(s, w.Eqns[0], w.Eqns[2]), 100, nil, 1, 0}, {data(s, w.Eqns[1:]...), 0, nil, -1, 0}, {data(s), 0, nil, -1, 0},
		{data(s, ab...), 100, nil, 0, 0}, {data(s, append(ab, loop)...), 100, nil, 0, 0}, {data(s, append([]api.Eqn{loop}, ab...)...), 100, nil, 0, 0}, {data(s, append([]api.Eqn{loop, ends, eq(1, h(f(v(0)), b()), h(a(), a()))}, ab...)...), 20000, nil, 0, api.ErrLimit}, {data(s, append([]api.Eqn{loop, ends, eq(1, h(f(v(0)), b()), b())}, ab...)...), 20000, nil, 3, 0},
		{data(s, eq(0, a(), b()), eq(0, a(), f(b()))), 0, nil, 0, 0}, {data(s, eq(0, a(), b()), eq(0, a(), b(), a(), f(b()))), 0, []api.Rjoin{{}}, -1, 0},
		{data(s, eq(2, h(v(0), v(1)), v(0)), eq(2, h(v(0), v(1)), v(1))), 100, nil, 0, 0}, {data(s, eq(3, h(h(v(0), v(1)), v(2)), h(v(0), h(v(1), v(2))))), 100, []api.Rjoin{{A: steps(step(0), step(0, 1)), B: steps(step(0))}}, -1, 0},
	} {
		joins, k, err := compl.Confluent(c.t, c.most)
		if err != c.err || k != c.k || !same(joins, c.joins) {
			t.Errorf("%d: Confluent: %v, %d, error %d; want %v, %d, error %d", i, joins, k, err, c.joins, c.k, c.err)
		}
		if joins, k, err := (words{c.t}).confluent(c.most); err != c.err || k != c.k || !same(joins, c.joins) {
			t.Errorf("%d: the words: %v, %d, error %d; want %v, %d, error %d", i, joins, k, err, c.joins, c.k, c.err)
		}
		if err := compl.CheckConfluent(c.t, joins); (err == api.OK) != (k == -1 && c.err == api.OK) {
			t.Errorf("%d: CheckConfluent: error %d", i, err)
		}
	}
}

// P7.3, P7.12: proofs that all pairs are joined, and what is none.
func TestCheckConfluent(t *testing.T) {
	w := whole()
	none, one, two := api.Rjoin{}, api.Rjoin{A: steps(step(2))}, api.Rjoin{A: steps(step(1))}
	many := repeated(20001, step(0))
	loop := data(abf(), eq(1, f(v(0)), f(v(0))), eq(1, f(v(0)), f(v(0))))
	for i, c := range []struct {
		t   api.Type
		l   []api.Rjoin
		err api.Errno
	}{
		{w, []api.Rjoin{none, one, two}, 0}, {w, []api.Rjoin{none, one}, api.ErrJoin}, {w, nil, api.ErrJoin}, {w, []api.Rjoin{none, one, two, none}, api.ErrJoin}, {w, []api.Rjoin{none, two, one}, api.ErrStep}, {w, []api.Rjoin{none, none, two}, api.ErrJoin}, {w, []api.Rjoin{none, one, none}, api.ErrJoin}, {w, []api.Rjoin{one, one, two}, api.ErrStep}, {w, []api.Rjoin{one, one}, api.ErrJoin}, {w, []api.Rjoin{none, {B: steps(step(2))}, none}, api.ErrStep}, {w, []api.Rjoin{none, none, {B: steps(step(2))}}, api.ErrJoin}, {w, []api.Rjoin{none, {A: steps(step(2), step(2))}, two}, api.ErrStep},
		{data(abf()), nil, 0}, {data(abf()), []api.Rjoin{none}, api.ErrJoin}, {loop, []api.Rjoin{none}, 0}, {loop, []api.Rjoin{{A: many[1:], B: many[1:]}}, 0}, {loop, []api.Rjoin{{B: many}}, api.ErrLimit}, {loop, []api.Rjoin{{A: many, B: steps(step(9))}}, api.ErrLimit},
	} {
		if err := compl.CheckConfluent(c.t, c.l); err != c.err {
			t.Errorf("%d: error %d; want %d", i, err, c.err)
		}
		if err := (words{c.t}).checkConfluent(c.l); err != c.err {
			t.Errorf("%d: the words: error %d; want %d", i, err, c.err)
		}
	}
}

// P7.3, P7.12: types that were made by chance, and proofs with small flaws.
func TestPairsByWords(t *testing.T) {
	joined, not, bad, conds := 0, 0, 0, 0
	for seed := range int64(700) {
		g := newMaker(seed + 20000)
		x := g.equations(pick(g, []api.Sig{some(), few()}), 5, 2)
		w := words{x}
		want, wrong := w.pairs()
		l, err := compl.Pairs(x)
		if err != wrong || !same(l, want) {
			t.Fatalf("%d: Pairs of %v: %v, error %d; want %v, error %d", seed, x.Eqns, l, err, want, wrong)
		}
		for _, c := range l {
			conds += len(c.Conds)
		}
		joins, k, err := compl.Confluent(x, 50)
		m, i, wrong := w.confluent(50)
		if err != wrong || i != k || !same(joins, m) {
			t.Fatalf("%d: Confluent of %v: %v, %d, error %d; want %v, %d, error %d", seed, x.Eqns, joins, k, err, m, i, wrong)
		}
		switch {
		case err != api.OK:
			continue
		case k >= 0:
			not++
			checkApart(t, x, l[k], 50)
			continue
		case len(l) == 0:
			continue
		}
		joined++
		if err := compl.CheckConfluent(x, joins); err != api.OK {
			t.Fatalf("%d: CheckConfluent of %v: error %d", seed, x.Eqns, err)
		}
		for range 10 {
			m := copied(joins)
			j := &m[g.r.Intn(len(m))]
			if g.once(2) {
				j.A = g.flawed(j.A)
			} else {
				j.B = g.flawed(j.B)
			}
			err, wrong := compl.CheckConfluent(x, m), w.checkConfluent(m)
			if err != wrong {
				t.Fatalf("%d: CheckConfluent of %v, %v: error %d; want %d", seed, x.Eqns, m, err, wrong)
			}
			if err != api.OK {
				bad++
			}
		}
	}
	if joined < 50 || not < 50 || bad < 300 || conds < 200 {
		t.Errorf("%d types were confluent, %d not; %d flaws; %d conditions", joined, not, bad, conds)
	}
}

// checkApart checks that a pair is not joined: both sides have normal forms that are irreducible, and different.
func checkApart(t *testing.T, x api.Type, c api.Crit, most int) {
	t.Helper()
	a, l, err := compl.Reduce(x, c.A, most)
	b, m, wrong := compl.Reduce(x, c.B, most)
	if err != api.OK || wrong != api.OK || sig.Same(a, b) {
		t.Fatalf("%v is told as not joined: %v, %v, errors %d, %d", c, a, b, err, wrong)
	}
	if err := compl.CheckJoin(x, c.A, c.B, api.Rjoin{A: l, B: m}); err != api.ErrJoin {
		t.Fatalf("%v: CheckJoin: error %d", c, err)
	}
}

// What is returned is new memory, and arguments do not change.
func TestPairsMemory(t *testing.T) {
	n, w := numbers(), whole()
	n.Eqns = append(n.Eqns, eq(3, add(add(v(0), v(1)), v(2)), add(v(0), add(v(1), v(2)))))
	untouched(t, "Pairs", func() []any {
		l, err := compl.Pairs(n)
		m, wrong := compl.Pairs(w)
		if err != api.OK || wrong != api.OK || len(l) < 5 {
			t.Errorf("%v, errors %d, %d", l, err, wrong)
		}
		return []any{l, m}
	}, n, w)
	untouched(t, "Confluent", func() []any {
		joins, _, _ := compl.Confluent(w, 100)
		if err := compl.CheckConfluent(w, joins); err != api.OK {
			t.Errorf("error %d", err)
		}
		return []any{joins}
	}, w)
}
