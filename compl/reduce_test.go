package compl_test

import (
	"math"
	"testing"

	"madrigal/api"
	"madrigal/compl"
	"madrigal/sig"
)

// P7.2: normal forms, the steps to them, and how many equations are tried.
func TestReduce(t *testing.T) {
	w, n := whole(), numbers()
	first := data(abf(), eq(1, f(v(0)), a()), eq(0, f(b()), b()), eq(2, h(v(0), v(1)), h(v(1), v(0)), v(0), b(), v(1), a()))
	gaps := data(abf(), eq(3, f(v(2)), v(2)), eq(4, h(v(3), v(1)), f(h(a(), v(1))), v(3), b()))
	one, two := number(1), number(2)
	le12 := steps(step(4), step(2))
	toTop := under(step(5), api.Rjoin{A: le12})
	for i, c := range []struct {
		t     api.Type
		x     api.Term
		want  api.Term
		steps []api.Rstep
		tried int
	}{
		{w, times(2, 4, b()), b(), steps(step(1, 0, 0, 0), step(2, 0, 0), step(1, 0), step(2)), 4}, {w, times(2, 3, v(7)), f(v(7)), steps(step(0, 0)), 1}, {w, v(3), v(3), nil, 0}, {w, v(1 << 60), v(1 << 60), nil, 0}, {w, f(v(3999)), f(v(3999)), nil, 0}, {w, a(), a(), nil, 0},
		{w, h(f(f(v(1))), f(b())), h(v(1), a()), steps(step(0, 0), step(1, 1)), 2}, {w, h(h(f(a()), v(0)), f(f(f(a())))), h(h(b(), v(0)), b()), steps(step(2, 0, 0), step(2, 1, 0, 0), step(1, 1, 0), step(2, 1)), 4},
		{first, f(b()), a(), steps(step(0)), 1}, {first, h(f(v(0)), b()), h(a(), b()), steps(step(0, 0)), 2}, {first, h(b(), f(f(b()))), h(a(), b()), steps(step(0, 1, 0), step(0, 1), under(step(2), api.Rjoin{}, api.Rjoin{})), 4},
		{gaps, f(f(v(9))), v(9), steps(step(0, 0), step(0)), 2}, {gaps, h(b(), f(v(9))), h(a(), v(9)), steps(step(0, 1), under(step(1), api.Rjoin{}), step(0)), 4}, {gaps, h(h(b(), a()), b()), h(h(a(), a()), b()), steps(under(step(1, 0), api.Rjoin{}), step(0, 0)), 4},
		{n, add(one, two), number(3), steps(step(1), step(1, 0), step(0, 0, 0)), 3}, {n, add(v(0), add(v(1), one)), succ(add(v(0), v(1))), steps(step(1, 1), step(0, 1, 0), step(1)), 3}, {n, top(one, two), two, steps(toTop), 3}, {n, top(two, one), two, steps(under(step(6), api.Rjoin{A: steps(step(4), step(3))})), 6}, {n, top(v(0), v(1)), top(v(0), v(1)), nil, 2},
		{n, lim(two, one), one, steps(under(step(7), api.Rjoin{A: steps(under(step(6), api.Rjoin{A: steps(step(4), step(3))}))})), 7},
		{n, succ(lim(one, two)), two, steps(under(step(8, 0), api.Rjoin{A: steps(toTop)}, api.Rjoin{A: steps(step(1), step(0, 0))})), 10}, {n, le(top(one, zero()), v(0)), le(one, v(0)), steps(under(step(6, 0), api.Rjoin{A: steps(step(3))})), 4},
	} {
		x, l, err := compl.Reduce(c.t, c.x, c.tried)
		if err != api.OK || !same(x, c.want) || !same(l, c.steps) {
			t.Errorf("%d: Reduce(%v): %v, %v, error %d; want %v, %v", i, c.x, x, l, err, c.want, c.steps)
		}
		if x, l, err := compl.Reduce(c.t, c.x, c.tried-1); c.tried > 0 && (err != api.ErrLimit || !same(x, api.Term{}) || len(l) > 0) {
			t.Errorf("%d: Reduce(%v) with an equation less: %v, %v, error %d", i, c.x, x, l, err)
		}
		if r, err := (words{c.t}).reduce(c.x, 20000); err != api.OK || !same(r, reduced{c.want, c.steps, c.tried}) {
			t.Errorf("%d: the words: %v, error %d", i, r, err)
		}
		if x, err := compl.Replay(c.t, c.x, c.steps); err != api.OK || !same(x, c.want) {
			t.Errorf("%d: Replay: %v, error %d", i, x, err)
		}
	}
}

// P7.2: how many equations can be tried.
func TestBounds(t *testing.T) {
	w := whole()
	for _, c := range []struct {
		most int
		err  api.Errno
	}{{math.MinInt, api.ErrArg}, {-1, api.ErrArg}, {0, api.ErrLimit}, {1, 0}, {20000, 0}, {20001, api.ErrArg}, {math.MaxInt, api.ErrArg}} {
		if _, _, err := compl.Reduce(w, f(b()), c.most); err != c.err {
			t.Errorf("Reduce with %d: error %d; want %d", c.most, err, c.err)
		}
		if _, is, err := compl.Join(w, f(b()), f(b()), c.most); err != c.err || is != (err == api.OK) {
			t.Errorf("Join with %d: %v, error %d; want %d", c.most, is, err, c.err)
		}
		if joins, k, err := compl.Confluent(w, c.most); err != c.err || (k == -1) != (err == api.OK) || err != api.OK && (k != 0 || len(joins) > 0) {
			t.Errorf("Confluent with %d: %d, error %d; want %d", c.most, k, err, c.err)
		}
		if _, k, err := compl.Confluent(data(abf()), c.most); (err == api.ErrArg) != (c.err == api.ErrArg) || err == api.OK && k != -1 || err != api.OK && k != 0 {
			t.Errorf("Confluent without equations, with %d: %d, error %d", c.most, k, err)
		}
	}
	// What is tried for ever: f(x) = f(x), also as a condition, and what leaves 190 operations open in each step.
	loop := data(abf(), eq(1, f(v(0)), f(v(0))))
	inner := data(abf(), eq(1, f(v(0)), v(0), f(v(0)), v(0)))
	grows := data(abf(), eq(1, f(v(0)), times(2, 190, v(0))))
	open := data(abf(), eq(1, h(v(0), v(0)), times(2, 190, h(v(0), v(0)))))
	never := data(abf(), eq(2, h(v(0), v(1)), v(0), times(2, 190, h(v(0), v(1))), v(0)))
	for i, x := range []api.Type{loop, inner, grows, open, never} {
		for _, from := range []api.Term{f(a()), h(a(), a())} {
			hasLeft := from.N == x.Eqns[0].A.N
			if _, _, err := compl.Reduce(x, from, 20000); hasLeft != (err == api.ErrLimit) {
				t.Errorf("the endless type %d: error %d", i, err)
			}
		}
	}
}

// reduces checks the error of Reduce, and the normal form, against the words too.
func reduces(t *testing.T, what string, x api.Type, from, want api.Term, wrong api.Errno) {
	t.Helper()
	y, l, err := compl.Reduce(x, from, 20000)
	if err != wrong || !same(y, want) {
		t.Errorf("%s: %v, error %d; want %v, error %d", what, y, err, want, wrong)
	}
	r, err := words{x}.reduce(from, 20000)
	if err != wrong || !same(r.x, want) || !same(r.steps, l) {
		t.Errorf("%s: the words: %v, error %d; want %v, error %d", what, r.x, err, want, wrong)
	}
}

// P7.2: terms that are put together, and those on the way, can be too great; what is tried in vain is not on the way.
func TestReduceLimits(t *testing.T) {
	s := signature("t", o("a", 0), o("b", 0), o("f", 0, 0), o("h", 0, 0, 0), o("q", 0, 0), o("big", 0, 0), o("d", 0, 0), o("i", 0, 0))
	one := func(n int) func(x api.Term) api.Term { return func(x api.Term) api.Term { return op(n, x) } }
	q, big, d, i := one(4), one(5), one(6), one(7)
	x := v(0)
	both := h(big(h(x, x)), big(h(x, x)))
	rules := func(l ...api.Eqn) api.Type {
		return data(s, append(l, eq(1, big(x), a()), eq(1, d(f(x)), i(i(d(x)))), eq(0, d(a()), b()), eq(1, i(x), x))...)
	}
	twice := rules(eq(1, q(x), h(x, x)))
	reduces(t, "1023 nodes", twice, times(4, 9, a()), perfect(9), api.OK)
	reduces(t, "2047 nodes", twice, times(4, 10, a()), api.Term{}, api.ErrLimit)
	reduces(t, "1999 nodes", twice, q(bush(3, 2, 999)), h(bush(3, 2, 999), bush(3, 2, 999)), api.OK)
	reduces(t, "2001 nodes", twice, q(bush(3, 2, 1000)), api.Term{}, api.ErrLimit)
	reduces(t, "1999 nodes with variables", twice, q(open(999)), h(open(999), open(999)), api.OK)
	reduces(t, "2001 nodes with variables", twice, q(open(1000)), api.Term{}, api.ErrLimit)
	reduces(t, "2001 nodes within what goes", twice, big(q(bush(3, 2, 1000))), api.Term{}, api.ErrLimit)
	deeper := rules(eq(1, q(x), f(f(f(x)))))
	reduces(t, "200 deep", deeper, q(times(2, 196, a())), times(2, 199, a()), api.OK)
	reduces(t, "201 deep", deeper, q(times(2, 197, a())), api.Term{}, api.ErrLimit)

	small, great := bush(3, 2, 497), bush(3, 2, 500)
	way := rules(eq(1, q(x), both))
	reduces(t, "1999 nodes on the way", way, q(small), h(a(), a()), api.OK)
	reduces(t, "too many nodes on the way", way, q(great), api.Term{}, api.ErrLimit)
	reduces(t, "too many nodes on the way to what goes", way, big(q(great)), api.Term{}, api.ErrLimit)
	vain := rules(eq(1, q(x), a(), both, b()), eq(1, q(x), b()))
	reduces(t, "too many nodes in vain", vain, q(great), b(), api.OK)
	holds := rules(eq(1, q(x), a(), both, h(a(), a())), eq(1, q(x), b()))
	reduces(t, "1999 nodes of a condition", holds, q(small), a(), api.OK)
	reduces(t, "too many nodes of a condition", holds, q(great), api.Term{}, api.ErrLimit)
	other := rules(eq(1, q(x), a(), h(a(), a()), both), eq(1, q(x), b()))
	reduces(t, "1999 nodes of a condition's right side", other, q(small), a(), api.OK)
	reduces(t, "too many nodes of a condition's right side", other, q(great), api.Term{}, api.ErrLimit)
	within := rules(eq(1, q(x), a(), h(q(h(x, x)), q(h(x, x))), b()), eq(2, q(h(x, v(1))), b(), both, h(a(), a())))
	reduces(t, "too many nodes within a condition that does not hold", within, q(h(great, great)), api.Term{}, api.ErrLimit)

	reduces(t, "198 open operations", rules(), d(times(2, 99, a())), b(), api.OK)
	reduces(t, "200 open operations", rules(), d(times(2, 100, a())), api.Term{}, api.ErrLimit)
	reduces(t, "2 and 198 open operations", rules(), f(f(d(times(2, 98, a())))), f(f(b())), api.OK)
	reduces(t, "3 and 198 open operations", rules(), f(f(f(d(times(2, 99, a()))))), api.Term{}, api.ErrLimit)
	asks := func(l ...api.Term) api.Type { return rules(eq(1, q(x), a(), l...), eq(1, q(x), f(b()))) }
	reduces(t, "300 open operations in vain", asks(d(x), a()), q(times(2, 150, a())), f(b()), api.OK)
	reduces(t, "300 open operations of a condition", asks(d(x), b()), q(times(2, 150, a())), api.Term{}, api.ErrLimit)
	reduces(t, "300 open operations of a condition's right side", asks(b(), d(x)), q(times(2, 150, a())), api.Term{}, api.ErrLimit)
	reduces(t, "198 open operations of a condition", asks(b(), d(x), d(x), b()), q(times(2, 99, a())), a(), api.OK)
	reduces(t, "300 open operations, and then a condition that does not hold", asks(d(x), b(), a(), b()), q(times(2, 150, a())), f(b()), api.OK)
	reduces(t, "200 open operations ahead of a step with a condition", asks(b(), b()), h(d(times(2, 100, a())), q(a())), api.Term{}, api.ErrLimit)
	reduces(t, "200 open operations behind a step with a condition", asks(b(), b()), h(q(a()), d(times(2, 100, a()))), api.Term{}, api.ErrLimit)
	ahead := rules(eq(1, q(h(x, x)), a(), b(), b()), eq(1, q(x), a(), h(d(x), q(h(a(), a()))), h(b(), a())), eq(1, q(x), f(b())))
	reduces(t, "198 open operations ahead of a step with a condition, of a condition", ahead, q(times(2, 98, a())), a(), api.OK)
	reduces(t, "300 open operations ahead of a step with a condition, of a condition", ahead, q(times(2, 150, a())), api.Term{}, api.ErrLimit)
	nested := rules(eq(1, q(h(x, a())), f(f(a())), q(x), a()), eq(1, q(h(x, b())), f(a()), q(x), a(), a(), b()), eq(2, q(h(x, v(1))), b()), eq(1, q(x), a(), d(x), b()))
	reduces(t, "300 open operations of a condition within a condition", nested, q(h(times(2, 150, a()), a())), api.Term{}, api.ErrLimit)
	reduces(t, "300 open operations of a condition within one in vain", nested, q(h(times(2, 150, a()), b())), b(), api.OK)
}

// open is bush with variables in the place of constants.
func open(nodes int) api.Term { return opened(bush(3, 2, nodes)) }

func opened(x api.Term) api.Term {
	if len(x.L) == 0 {
		return v(x.N)
	}
	for i, y := range x.L {
		x.L[i] = opened(y)
	}
	return x
}

// perfect is a term with h at each place of so many levels, and a below.
func perfect(levels int) api.Term {
	x := a()
	for range levels {
		x = h(x, x)
	}
	return x
}

// P7.2: joins are what Reduce returns of both.
func TestJoin(t *testing.T) {
	w := whole()
	loop := data(abf(), eq(1, f(v(0)), f(v(0))), eq(0, h(a(), a()), a()))
	for i, x := range noTerms() {
		if j, is, err := compl.Join(w, a(), x, 100); is || err != api.ErrTerm || !same(j, api.Rjoin{}) {
			t.Errorf("the term %d: %v, %v, error %d", i, j, is, err)
		}
	}
	for i, c := range []struct {
		t    api.Type
		a, b api.Term
		most int
		j    api.Rjoin
		is   bool
		err  api.Errno
	}{
		{w, f(a()), f(f(b())), 2, api.Rjoin{A: steps(step(2)), B: steps(step(1, 0), step(2))}, true, 0}, {w, f(a()), f(f(b())), 1, api.Rjoin{}, false, api.ErrLimit}, {w, f(f(b())), f(a()), 1, api.Rjoin{}, false, api.ErrLimit}, {w, f(f(b())), f(a()), 2, api.Rjoin{A: steps(step(1, 0), step(2)), B: steps(step(2))}, true, 0},
		{w, a(), b(), 0, api.Rjoin{}, false, 0}, {w, f(a()), a(), 1, api.Rjoin{}, false, 0}, {w, a(), a(), 0, api.Rjoin{}, true, 0}, {w, v(0), v(0), 0, api.Rjoin{}, true, 0}, {w, v(0), v(1), 0, api.Rjoin{}, false, 0}, {w, f(f(v(0))), v(0), 1, api.Rjoin{A: steps(step(0))}, true, 0},
		{loop, f(a()), f(a()), 20000, api.Rjoin{}, false, api.ErrLimit}, {loop, a(), f(a()), 20000, api.Rjoin{}, false, api.ErrLimit}, {loop, f(a()), a(), 20000, api.Rjoin{}, false, api.ErrLimit}, {loop, a(), h(a(), a()), 1, api.Rjoin{B: steps(step(1))}, true, 0},
	} {
		j, is, err := compl.Join(c.t, c.a, c.b, c.most)
		if err != c.err || is != c.is || !same(j, c.j) {
			t.Errorf("%d: Join(%v, %v): %v, %v, error %d; want %v, %v, error %d", i, c.a, c.b, j, is, err, c.j, c.is, c.err)
		}
	}
}

// checkReduce holds Reduce against the words, up to a bound of equations that are tried, and returns what it returns.
func checkReduce(t *testing.T, x api.Type, from api.Term, most int) (reduced, api.Errno) {
	t.Helper()
	want, wrong := words{x}.reduce(from, most)
	got, l, err := compl.Reduce(x, from, most)
	if err != wrong || !same(got, want.x) || !same(l, want.steps) {
		t.Fatalf("by %v, Reduce(%v, %d): %v, %v, error %d; want %v, %v, error %d", x.Eqns, from, most, got, l, err, want.x, want.steps, wrong)
	}
	if wrong != api.OK {
		return want, wrong
	}
	if _, l, err := compl.Reduce(x, from, want.tried); err != api.OK || !same(l, want.steps) {
		t.Fatalf("by %v, Reduce(%v, %d): %v, error %d", x.Eqns, from, want.tried, l, err)
	}
	if _, _, err := compl.Reduce(x, from, want.tried-1); want.tried > 0 && err != api.ErrLimit {
		t.Fatalf("by %v, Reduce(%v, %d): error %d", x.Eqns, from, want.tried-1, err)
	}
	return want, api.OK
}

// P7.2, P7.6: terms and types that were made by chance: the steps lead to the normal form, which is its own; a step more is refused.
func TestReduceByWords(t *testing.T) {
	long, within, limits, joined := 0, 0, 0, 0
	for seed := range int64(1500) {
		g := newMaker(seed + 10000)
		x := g.equations(some(), 8, 3)
		for range 3 {
			from := g.instanceOf(x.Sig, pick(g, x.Eqns), 3)
			r, err := checkReduce(t, x, from, 100)
			if err != api.OK {
				limits++
				continue
			}
			if len(r.steps) > 2 {
				long++
			}
			for _, s := range r.steps {
				if len(s.Conds) > 0 && len(s.Conds[0].A) > 0 {
					within++
				}
			}
			checkNormal(t, g, x, from, r)
			to := g.any(x.Sig, 3)
			if g.once(2) {
				to = r.x
			}
			want, is, wrong := words{x}.join(from, to, 100)
			j, also, err := compl.Join(x, from, to, 100)
			if err != wrong || is != also || !same(j, want) {
				t.Fatalf("by %v, Join(%v, %v): %v, %v, error %d; want %v, %v, error %d", x.Eqns, from, to, j, also, err, want, is, wrong)
			}
			if is {
				joined++
				if err := compl.CheckJoin(x, from, to, j); err != api.OK {
					t.Fatalf("by %v, CheckJoin(%v, %v, %v): error %d", x.Eqns, from, to, j, err)
				}
			}
		}
	}
	if long < 200 || within < 30 || limits < 50 || joined < 500 {
		t.Errorf("%d long reductions, %d steps with steps of conditions, %d limits, %d joins", long, within, limits, joined)
	}
}

// checkNormal checks what Replay and Reduce say of a normal form and the steps to it.
func checkNormal(t *testing.T, g maker, x api.Type, from api.Term, r reduced) {
	t.Helper()
	if y, err := compl.Replay(x, from, r.steps); err != api.OK || !sig.Same(y, r.x) {
		t.Fatalf("by %v, Replay(%v, %v): %v, error %d; want %v", x.Eqns, from, r.steps, y, err, r.x)
	}
	if y, l, err := compl.Reduce(x, r.x, 20000); err == api.OK && (!sig.Same(y, r.x) || len(l) > 0) {
		t.Fatalf("by %v, Reduce(%v): %v, %v, error %d", x.Eqns, r.x, y, l, err)
	}
	for k, e := range x.Eqns {
		places, _ := sig.Paths(r.x)
		at := pick(g, places)
		stands, _ := sig.At(r.x, at)
		_, is, _ := sig.Match(e.A, stands)
		if is && len(e.Conds) == 0 {
			t.Fatalf("by %v, %v is no normal form", x.Eqns, r.x)
		}
		l := append(copied(r.steps), api.Rstep{Eqn: k, At: at})
		if y, err := compl.Replay(x, from, l); err != api.ErrStep || !same(y, api.Term{}) {
			t.Fatalf("by %v, Replay(%v, %v): %v, error %d", x.Eqns, from, l, y, err)
		}
	}
}

// Reduce and Join change no arguments, and their results are new memory.
func TestReduceMemory(t *testing.T) {
	n := numbers()
	x, y := lim(add(v(0), number(2)), v(1)), add(lim(number(1), number(2)), top(succ(v(0)), number(0)))
	untouched(t, "Reduce", func() []any {
		a, l, _ := compl.Reduce(n, x, 100)
		b, m, _ := compl.Reduce(n, y, 100)
		return []any{a, l, b, m}
	}, n, x, y)
	untouched(t, "Join", func() []any {
		j, is, err := compl.Join(n, y, y, 100)
		if !is || err != api.OK || len(j.A) == 0 {
			t.Errorf("%v, %v, error %d", j, is, err)
		}
		return []any{j}
	}, n, y)
}
