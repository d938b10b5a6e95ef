package compl_test

import (
	"math"
	"testing"

	"madrigal/api"
	"madrigal/compl"
	"madrigal/sig"
)

// The operations of the chapter's examples.
func a() api.Term           { return op(0) }
func b() api.Term           { return op(1) }
func f(x api.Term) api.Term { return op(2, x) }

// abf is the signature of the chapter's examples, with an operation h of two arguments behind.
func abf() api.Sig {
	return signature("t", o("a", 0), o("b", 0), o("f", 0, 0), o("h", 0, 0, 0))
}

func h(x, y api.Term) api.Term { return op(3, x, y) }

// whole is the completion of the chapter's examples.
func whole() api.Type {
	return data(abf(), eq(1, f(f(v(0))), v(0)), eq(0, f(b()), a()), eq(0, f(a()), b()))
}

// The operations of numbers.
func zero() api.Term             { return op(0) }
func succ(x api.Term) api.Term   { return op(1, x) }
func add(x, y api.Term) api.Term { return op(2, x, y) }
func yes() api.Term              { return op(3) }
func no() api.Term               { return op(4) }
func le(x, y api.Term) api.Term  { return op(5, x, y) }
func top(x, y api.Term) api.Term { return op(6, x, y) }
func lim(x, y api.Term) api.Term { return op(7, x, y) }
func number(n int) api.Term      { return times(1, n, zero()) }

// numbers is a type with conditions: le compares two numbers, top is the greater one, lim the lesser one, which asks for top.
func numbers() api.Type {
	s := signature("N B", o("z", 0), o("s", 0, 0), o("add", 0, 0, 0), o("yes", 1), o("no", 1), o("le", 0, 0, 1), o("top", 0, 0, 0), o("lim", 0, 0, 0))
	x, y := v(0), v(1)
	return data(s,
		eq(1, add(x, zero()), x),
		eq(2, add(x, succ(y)), succ(add(x, y))),
		eq(1, le(zero(), x), yes()),
		eq(1, le(succ(x), zero()), no()),
		eq(2, le(succ(x), succ(y)), le(x, y)),
		eq(2, top(x, y), y, le(x, y), yes()),
		eq(2, top(x, y), x, le(x, y), no()),
		eq(2, lim(x, y), y, top(x, y), x),
		eq(2, lim(x, y), x, top(x, y), y, add(zero(), x), x))
}

// noTerms are no terms of a type, whatever else they are.
func noTerms() []api.Term {
	return []api.Term{
		{}, {Kind: 3}, {Kind: api.KVar, N: -1}, {Kind: api.KVar, N: 0, L: []api.Term{v(0)}}, {Kind: api.KOp, N: -1}, op(math.MinInt), op(math.MaxInt),
		op(4), op(0, v(0)), op(2), op(2, v(0), v(0)), op(3, v(0)), f(api.Term{}), f(op(7)), f(v(-1)), f(v(4000)), times(2, 200, a()), times(2, 200, v(0)), bush(3, 2, 2001), doubled(3),
	}
}

// noTypes are no types.
func noTypes() []api.Type {
	s, t := abf(), whole()
	bad := abf()
	bad.Ops[1].Name = "a"
	deep := whole()
	deep.Eqns[0].B = times(2, 200, v(0))
	many := data(s)
	for range 401 {
		many.Eqns = append(many.Eqns, t.Eqns[1])
	}
	return []api.Type{data(bad), deep, many, data(s, eq(1, v(0), v(0))), data(s, eq(1, f(a()), v(0))), data(s, eq(0, f(v(0)), a())), data(s, eq(1, f(v(0)), a(), b(), v(1))), data(s, t.Eqns[0], eq(1, f(f(v(0))), op(4)))}
}

// P7.1: where steps lead, and what is none.
func TestReplay(t *testing.T) {
	w, n := whole(), numbers()
	gaps := data(abf(), eq(3, f(v(2)), v(2)), eq(4, h(v(3), v(1)), h(v(1), v(3))), eq(1, h(v(0), v(0)), a()))
	le12 := steps(step(4), step(2))
	none := api.Rjoin{}
	one, two := number(1), number(2)
	toTop := under(step(5), api.Rjoin{A: le12})
	for i, c := range []struct {
		t    api.Type
		x    api.Term
		l    []api.Rstep
		want api.Term
		err  api.Errno
	}{
		{w, f(f(b())), steps(step(0)), b(), 0}, {w, f(f(b())), steps(step(1, 0)), f(a()), 0}, {w, f(f(b())), steps(step(0, 0)), b(), api.ErrStep}, {w, f(f(b())), steps(step(1, 0), step(2)), b(), 0}, {w, f(f(b())), nil, f(f(b())), 0},
		{w, f(f(b())), steps(step(1, 0), step(2), step(2)), b(), api.ErrStep}, {w, f(f(b())), steps(step(3)), b(), api.ErrStep}, {w, f(f(b())), steps(step(-1)), b(), api.ErrStep}, {w, f(f(b())), steps(step(1, 1)), b(), api.ErrStep}, {w, f(f(b())), steps(step(1, -1)), b(), api.ErrStep}, {w, f(f(b())), steps(step(1, 0, 0)), b(), api.ErrStep}, {w, f(f(b())), steps(step(1, 0, 0, 0)), b(), api.ErrStep}, {w, f(f(b())), steps(step(1)), b(), api.ErrStep}, {w, f(f(b())), steps(under(step(0), none)), b(), api.ErrStep}, {w, f(f(b())), steps(step(math.MaxInt)), b(), api.ErrStep}, {w, f(f(b())), steps(step(math.MinInt)), b(), api.ErrStep}, {w, f(f(b())), steps(step(1, math.MinInt)), b(), api.ErrStep},
		{w, v(0), nil, v(0), 0}, {w, v(1 << 60), nil, v(1 << 60), 0}, {w, v(0), steps(step(0)), b(), api.ErrStep}, {w, f(f(v(3999))), steps(step(0)), v(3999), 0}, {w, h(f(f(v(7))), f(b())), steps(step(1, 1), step(0, 0)), h(v(7), a()), 0}, {w, f(v(0)), steps(step(1)), b(), api.ErrStep}, {w, f(v(0)), steps(step(0)), b(), api.ErrStep}, {w, f(f(f(a()))), steps(step(0)), f(a()), 0}, {w, f(f(f(a()))), steps(step(0, 0)), f(a()), 0}, {w, f(f(f(a()))), steps(step(0, 0), step(0)), f(a()), api.ErrStep},
		{gaps, f(f(v(5))), steps(step(0)), f(v(5)), 0}, {gaps, h(a(), f(b())), steps(step(1), step(0, 0)), h(b(), a()), 0}, {gaps, h(f(b()), f(b())), steps(step(2)), a(), 0}, {gaps, h(f(b()), f(a())), steps(step(2)), a(), api.ErrStep}, {gaps, h(v(0), v(1)), steps(step(2)), a(), api.ErrStep},
		{n, top(one, two), steps(toTop), two, 0}, {n, top(one, two), steps(step(5)), two, api.ErrStep}, {n, top(one, two), steps(under(step(5), none)), two, api.ErrStep}, {n, top(one, two), steps(under(step(5), api.Rjoin{A: le12[:1]})), two, api.ErrStep}, {n, top(one, two), steps(under(step(5), api.Rjoin{B: le12})), two, api.ErrStep}, {n, top(one, two), steps(under(step(5), api.Rjoin{A: le12}, none)), two, api.ErrStep}, {n, top(one, two), steps(under(step(6), api.Rjoin{A: le12})), one, api.ErrStep}, {n, top(one, two), steps(under(step(5), api.Rjoin{A: le12, B: steps(step(2))})), two, api.ErrStep}, {n, top(one, two), steps(under(step(5), api.Rjoin{A: steps(step(4, 0), step(2))})), two, api.ErrStep}, {n, top(v(0), v(1)), steps(under(step(5), none)), two, api.ErrStep},
		{n, lim(one, two), steps(under(step(8), api.Rjoin{A: steps(toTop)}, api.Rjoin{A: steps(step(1), step(0, 0))})), one, 0}, {n, lim(one, two), steps(under(step(8), api.Rjoin{A: steps(toTop)}, api.Rjoin{A: steps(step(1))})), one, api.ErrStep}, {n, lim(one, two), steps(under(step(8), api.Rjoin{A: steps(step(5))}, api.Rjoin{A: steps(step(1), step(0, 0))})), one, api.ErrStep}, {n, lim(one, two), steps(under(step(8), api.Rjoin{A: steps(step(1), step(0, 0))}, api.Rjoin{A: steps(toTop)})), one, api.ErrStep},
		{n, succ(top(one, add(one, one))), steps(under(step(5, 0), api.Rjoin{A: steps(step(4)), B: nil})), two, api.ErrStep}, {n, succ(top(one, add(one, one))), steps(step(1, 0, 1), under(step(5, 0), api.Rjoin{A: steps(step(4), step(2))}), step(0, 0, 0)), number(3), 0},
	} {
		x, err := compl.Replay(c.t, c.x, c.l)
		if err != c.err || err == api.OK && !sig.Same(x, c.want) || err != api.OK && !same(x, api.Term{}) {
			t.Errorf("%d: Replay(%v, %v): %v, error %d; want %v, error %d", i, c.x, c.l, x, err, c.want, c.err)
		}
		if x, err := (words{c.t}).replay(c.x, c.l); err != c.err || err == api.OK && !sig.Same(x, c.want) {
			t.Errorf("%d: the words say %v, error %d", i, x, err)
		}
	}
}

// P7.1: what is no type, or no term, of any function that takes some.
func TestTermErrors(t *testing.T) {
	w := whole()
	calls := func(t api.Type, x api.Term) []api.Errno {
		_, replay := compl.Replay(t, x, steps(step(7)))
		_, _, reduce := compl.Reduce(t, x, -1)
		_, _, join := compl.Join(t, x, a(), -1)
		_, _, other := compl.Join(t, a(), x, -1)
		return []api.Errno{replay, reduce, join, other, compl.CheckJoin(t, x, a(), api.Rjoin{A: steps(step(7))}), compl.CheckJoin(t, a(), x, api.Rjoin{A: steps(step(7))})}
	}
	for i, x := range noTerms() {
		for k, err := range calls(w, x) {
			if err != api.ErrTerm {
				t.Errorf("the term %d, call %d: error %d", i, k, err)
			}
		}
	}
	for i, bad := range noTypes() {
		for k, err := range append(calls(bad, f(a())), calls(bad, api.Term{})...) {
			if err != api.ErrType {
				t.Errorf("the type %d, call %d: error %d", i, k, err)
			}
		}
	}
	n := numbers()
	for i, x := range []api.Term{le(yes(), zero()), add(zero(), le(zero(), zero())), succ(yes()), op(6, v(0), yes())} {
		for k, err := range calls(n, x) {
			if err != api.ErrTerm {
				t.Errorf("the term %d of other sorts, call %d: error %d", i, k, err)
			}
		}
	}
	split := data(signature("N B", o("a", 0), o("b", 1), o("p", 0, 1, 0)))
	for _, c := range []struct {
		x   api.Term
		err api.Errno
	}{{op(2, v(0), v(1)), 0}, {op(2, v(0), v(0)), api.ErrTerm}, {op(2, op(2, v(0), v(1)), v(1)), 0}, {op(2, op(2, v(0), v(1)), v(0)), api.ErrTerm}, {op(2, v(3999), v(0)), 0}, {v(4000), 0}, {v(math.MaxInt), 0}} {
		if _, err := compl.Replay(split, c.x, nil); err != c.err {
			t.Errorf("%v: error %d; want %d", c.x, err, c.err)
		}
	}
	if _, err := compl.Replay(w, times(2, 199, a()), nil); err != api.OK {
		t.Errorf("a term 200 deep: error %d", err)
	}
	if _, err := compl.Replay(w, bush(3, 2, 2000), nil); err != api.OK {
		t.Errorf("a term of 2000 nodes: error %d", err)
	}
	if _, err := compl.Replay(w, v(5), steps(step(7))); err != api.ErrStep {
		t.Errorf("a variable and no step: error %d", err)
	}
}

// replays checks the error of Replay, and what the words say of it.
func replays(t *testing.T, what string, x api.Type, from api.Term, l []api.Rstep, want api.Errno) {
	t.Helper()
	if _, err := compl.Replay(x, from, l); err != want {
		t.Errorf("%s: Replay: error %d; want %d", what, err, want)
	}
	if err := compl.CheckJoin(x, from, from, api.Rjoin{A: l, B: l}); err != want {
		t.Errorf("%s: CheckJoin: error %d; want %d", what, err, want)
	}
	if _, err := (words{x}).replay(from, l); err != want {
		t.Errorf("%s: the words: error %d; want %d", what, err, want)
	}
}

// P7.1: how many steps there can be, those within conditions counted.
func TestReplayCounts(t *testing.T) {
	// f(x) = f(x); f(f(x)) = x, if f(x) = f(x).
	loop := data(abf(), eq(1, f(v(0)), f(v(0))), eq(1, f(f(v(0))), v(0), f(v(0)), f(v(0))))
	x := f(f(a()))
	joined := func(one, other int) api.Rstep {
		return under(step(1), api.Rjoin{A: repeated(one, step(0)), B: repeated(other, step(0))})
	}
	replays(t, "20000 steps", loop, x, repeated(20000, step(0)), api.OK)
	replays(t, "20001 steps", loop, x, repeated(20001, step(0)), api.ErrLimit)
	replays(t, "20000 steps with those of a condition", loop, x, steps(joined(10000, 9999)), api.OK)
	replays(t, "20001 steps with those of the left side of a condition", loop, x, steps(joined(20000, 0)), api.ErrLimit)
	replays(t, "20001 steps with those of the right side of a condition", loop, x, steps(joined(0, 20000)), api.ErrLimit)
	replays(t, "20001 steps with those ahead", loop, x, append(repeated(101, step(0)), joined(10000, 9899)), api.ErrLimit)
	replays(t, "20000 steps with those ahead", loop, x, append(repeated(100, step(0)), joined(10000, 9899)), api.OK)
	replays(t, "20001 steps with those behind", loop, f(x), append(steps(joined(10000, 9899)), repeated(101, step(0))...), api.ErrLimit)
	replays(t, "20000 steps with those behind", loop, f(x), append(steps(joined(10000, 9899)), repeated(100, step(0))...), api.OK)
	replays(t, "a wrong step ahead of the 20001st one", loop, x, append(repeated(19999, step(0)), step(2), step(0)), api.ErrStep)
	replays(t, "the 20001st step, which is wrong", loop, x, append(repeated(20000, step(0)), step(2)), api.ErrLimit)
	// f(x) = f(x), if f(x) = f(x); f(x) = f(x).
	deep := data(abf(), eq(1, f(v(0)), f(v(0)), f(v(0)), f(v(0))), eq(1, f(v(0)), f(v(0))))
	within := steps(step(1))
	for range 19999 {
		within = steps(under(step(0), api.Rjoin{A: within}))
	}
	replays(t, "20000 steps within each other", deep, x, within, api.OK)
	replays(t, "20001 steps within each other", deep, x, steps(under(step(0), api.Rjoin{B: within})), api.ErrLimit)
	replays(t, "20001 steps, the last one behind those within each other", deep, x, append(within, step(1)), api.ErrLimit)
}

// P7.1: terms that are too great, and what is looked at first.
func TestReplayLimits(t *testing.T) {
	s := signature("t", o("a", 0), o("b", 0), o("f", 0, 0), o("h", 0, 0, 0), o("q", 0, 0))
	q := func(x api.Term) api.Term { return op(4, x) }
	twice := h(v(0), v(0))
	one := func(b api.Term, conds ...api.Term) api.Type { return data(s, eq(1, q(v(0)), b, conds...)) }
	small, great := bush(3, 2, 999), bush(3, 2, 1000)
	none, wrong := api.Rjoin{}, api.Rjoin{A: steps(step(5))}
	for i, c := range []struct {
		t     api.Type
		x     api.Term
		conds []api.Rjoin
		err   api.Errno
	}{
		{one(twice), small, nil, api.OK}, {one(twice), great, nil, api.ErrLimit}, {one(f(f(f(v(0))))), times(2, 196, a()), nil, api.OK}, {one(f(f(f(v(0))))), times(2, 197, a()), nil, api.ErrLimit},
		{one(a(), twice, twice), small, []api.Rjoin{none}, api.OK}, {one(a(), twice, twice), great, []api.Rjoin{none}, api.ErrLimit}, {one(a(), twice, twice), great, []api.Rjoin{wrong}, api.ErrLimit}, {one(a(), twice, twice), great, nil, api.ErrStep}, {one(a(), v(0), twice), great, []api.Rjoin{none}, api.ErrLimit}, {one(a(), twice, v(0)), great, []api.Rjoin{none}, api.ErrLimit}, {one(a(), v(0), twice), small, []api.Rjoin{none}, api.ErrStep}, {one(a(), v(0), f(f(f(v(0))))), times(2, 197, a()), []api.Rjoin{none}, api.ErrLimit},
		{one(twice, v(0), a()), great, []api.Rjoin{none}, api.ErrStep}, {one(twice, v(0), v(0)), great, []api.Rjoin{none}, api.ErrLimit}, {one(twice, v(0), v(0)), great, []api.Rjoin{wrong}, api.ErrStep}, {one(a(), v(0), a(), twice, twice), great, []api.Rjoin{none, none}, api.ErrStep}, {one(a(), twice, twice, v(0), a()), great, []api.Rjoin{none, none}, api.ErrLimit}, {one(a(), v(0), v(0), twice, twice), great, []api.Rjoin{none, none}, api.ErrLimit}, {one(a(), v(0), v(0), twice, twice), great, []api.Rjoin{none}, api.ErrStep},
	} {
		replays(t, "the term "+string(rune('A'+i)), c.t, q(c.x), steps(under(step(0), c.conds...)), c.err)
	}
	grows := data(s, eq(0, b(), h(a(), a())), eq(1, f(v(0)), f(f(v(0)))))
	replays(t, "2000 nodes", grows, h(b(), bush(3, 2, 1996)), steps(step(0, 0)), api.OK)
	replays(t, "2001 nodes", grows, h(b(), bush(3, 2, 1997)), steps(step(0, 0)), api.ErrLimit)
	replays(t, "200 deep", grows, times(2, 198, v(0)), steps(step(1, 0, 0)), api.OK)
	replays(t, "201 deep", grows, times(2, 199, v(0)), steps(step(1, 0, 0)), api.ErrLimit)
	replays(t, "201 deep behind the second step", grows, times(2, 198, v(0)), steps(step(1), step(1), step(7)), api.ErrLimit)
	replays(t, "a wrong step ahead", grows, times(2, 199, v(0)), steps(step(7), step(1)), api.ErrStep)
}

// P7.1: joins.
func TestCheckJoin(t *testing.T) {
	w := whole()
	loop := data(abf(), eq(1, f(v(0)), f(v(0))))
	join := func(l, m []api.Rstep) api.Rjoin { return api.Rjoin{A: l, B: m} }
	many := repeated(20000, step(0))
	for i, c := range []struct {
		t    api.Type
		a, b api.Term
		j    api.Rjoin
		err  api.Errno
	}{
		{w, f(b()), a(), join(steps(step(1)), nil), 0}, {w, a(), f(b()), join(nil, steps(step(1))), 0}, {w, f(b()), b(), join(steps(step(1)), nil), api.ErrJoin}, {w, a(), b(), join(nil, nil), api.ErrJoin}, {w, a(), a(), join(nil, nil), 0}, {w, v(0), v(0), join(nil, nil), 0}, {w, v(0), v(1), join(nil, nil), api.ErrJoin},
		{w, f(f(b())), f(a()), join(steps(step(1, 0)), nil), 0}, {w, f(f(b())), f(a()), join(steps(step(0)), steps(step(2))), 0}, {w, f(f(b())), f(a()), join(steps(step(0)), nil), api.ErrJoin}, {w, f(f(b())), f(a()), join(nil, steps(step(0))), api.ErrStep}, {w, f(f(b())), f(a()), join(steps(step(0), step(0)), nil), api.ErrStep}, {w, f(a()), f(b()), join(steps(step(1)), steps(step(2))), api.ErrStep}, {w, f(a()), f(b()), join(steps(step(2)), steps(step(1))), api.ErrJoin},
		{loop, f(a()), f(a()), join(many, many), 0}, {loop, f(a()), f(b()), join(many, many), api.ErrJoin}, {loop, f(a()), f(b()), join(repeated(20001, step(0)), steps(step(1))), api.ErrLimit}, {loop, f(a()), f(b()), join(steps(step(1)), repeated(20001, step(0))), api.ErrStep}, {loop, f(a()), f(b()), join(nil, repeated(20001, step(0))), api.ErrLimit},
	} {
		if err := compl.CheckJoin(c.t, c.a, c.b, c.j); err != c.err {
			t.Errorf("%d: CheckJoin(%v, %v): error %d; want %d", i, c.a, c.b, err, c.err)
		}
		if err := (words{c.t}).checkJoin(c.a, c.b, c.j); err != c.err {
			t.Errorf("%d: the words: error %d; want %d", i, err, c.err)
		}
	}
}

// P7.1, P7.6: steps of terms that were made by chance, with small flaws.
func TestReplayByWords(t *testing.T) {
	met := map[api.Errno]int{}
	for seed := range int64(2000) {
		g := newMaker(seed)
		x := g.equations(some(), 5, 2)
		w := words{x}
		from := g.instanceOf(x.Sig, pick(g, x.Eqns), 3)
		r, err := w.reduce(from, 60)
		if err != api.OK || len(r.steps) == 0 && g.once(2) {
			continue
		}
		other, wrong := w.reduce(g.instanceOf(x.Sig, pick(g, x.Eqns), 3), 60)
		if wrong != api.OK {
			other = r
		}
		for range 12 {
			l := r.steps
			for range g.r.Intn(3) {
				l = g.flawed(l)
			}
			want, wrong := w.replay(from, l)
			met[wrong]++
			got, err := compl.Replay(x, from, l)
			if err != wrong || !same(got, want) {
				t.Fatalf("%d: by %v, Replay(%v, %v): %v, error %d; want %v, error %d", seed, x.Eqns, from, l, got, err, want, wrong)
			}
			j := api.Rjoin{A: l, B: other.steps}
			to := from
			if g.once(2) {
				j.B = r.steps
			}
			if want, err := w.checkJoin(from, to, j), compl.CheckJoin(x, from, to, j); err != want {
				t.Fatalf("%d: by %v, CheckJoin(%v, %v, %v): error %d; want %d", seed, x.Eqns, from, to, j, err, want)
			} else if want == api.ErrJoin {
				met[want]++
			}
		}
	}
	if met[api.OK] < 1000 || met[api.ErrStep] < 1000 || met[api.ErrJoin] < 300 {
		t.Errorf("met: %v", met)
	}
}

// Replay changes no arguments, and its results are new memory.
func TestReplayMemory(t *testing.T) {
	n := numbers()
	x := add(top(number(1), number(2)), succ(v(0)))
	l := steps(step(1), under(step(5, 0, 0), api.Rjoin{A: steps(step(4), step(2))}))
	j := api.Rjoin{A: l, B: l}
	untouched(t, "Replay", func() []any {
		x, err := compl.Replay(n, x, l)
		if err != api.OK || !sig.Same(x, succ(add(number(2), v(0)))) {
			t.Errorf("%v, error %d", x, err)
		}
		return []any{x}
	}, n, x, l)
	untouched(t, "CheckJoin", func() []any {
		if err := compl.CheckJoin(n, x, x, j); err != api.OK {
			t.Errorf("error %d", err)
		}
		return nil
	}, n, x, j)
	none, _ := compl.Replay(n, x, nil)
	untouched(t, "Replay of nothing", func() []any {
		y, _ := compl.Replay(n, none, nil)
		return []any{y}
	}, none)
}
