package compl_test

import (
	"math"
	"slices"
	"testing"

	"madrigal/api"
	"madrigal/compl"
)

// abfOrder is the order of the chapter's examples, with h above.
func abfOrder() api.Order { return order(api.ByLeft, 0, 1, 2, 3) }

// abfh is the signature abf and its order.
func abfh() completing { return completing{abf(), abfOrder()} }

// act is an inference.
func act(kind, k, rule int, at ...int) api.Cact {
	return api.Cact{Kind: kind, K: k, Rule: rule, At: at}
}

func flip(a api.Cact) api.Cact { a.Flip = !a.Flip; return a }

// state is a state of rules, and of open equations.
func state(rules []api.Eqn, open ...api.Eqn) api.Cstate { return api.Cstate{Rules: rules, Open: open} }

func eqns(l ...api.Eqn) []api.Eqn { return l }

// infers checks what Infer returns, and what the words say of it.
func infers(t *testing.T, what any, w completing, c api.Cstate, x api.Cact, want api.Cstate, wrong api.Errno) {
	t.Helper()
	if y, err := compl.Infer(w.s, w.o, c, x); err != wrong || !same(y, want) {
		t.Errorf("%v: Infer(%v): %v, error %d; want %v, error %d", what, x, y, err, want, wrong)
	}
	if y, err := w.infer(c, x); err != wrong || !same(y, want) {
		t.Errorf("%v: the words of %v: %v, error %d; want %v, error %d", what, x, y, err, want, wrong)
	}
}

// P7.4: inferences of each kind, and what is none.
func TestInfer(t *testing.T) {
	x, y := v(0), v(1)
	twice, fb, fa := eq(1, f(f(x)), x), eq(0, f(b()), a()), eq(0, f(a()), b())
	rules := eqns(twice, fa)
	open := eqns(eq(0, a(), f(f(b()))), eq(0, b(), b()), eq(2, h(x, y), x), eq(2, x, h(y, x)), eq(2, f(x), f(y)), eq(1, f(f(f(x))), h(f(f(x)), a())), eq(1, x, x), eq(1, x, f(x)))
	c := state(rules, open...)
	without := func(k int) []api.Eqn { return slices.Delete(slices.Clone(open), k, k+1) }
	instead := func(k int, e api.Eqn) api.Cstate {
		l := slices.Clone(open)
		l[k] = e
		return state(rules, l...)
	}
	more := func(l ...api.Eqn) api.Cstate { return state(rules, append(slices.Clone(open), l...)...) }
	none := api.Cstate{}
	for i, e := range []struct {
		a    api.Cact
		want api.Cstate
		err  api.Errno
	}{
		{flip(act(1, 0, 0)), state(append(rules, eq(0, f(f(b())), a())), without(0)...), 0}, {act(1, 0, 0), none, api.ErrAct}, {act(1, 1, 0), none, api.ErrAct}, {flip(act(1, 1, 0)), none, api.ErrAct}, {act(1, 2, 0), state(append(rules, open[2]), without(2)...), 0}, {flip(act(1, 2, 0)), none, api.ErrAct}, {act(1, 3, 0), none, api.ErrAct}, {flip(act(1, 3, 0)), state(append(rules, eq(2, h(x, y), y)), without(3)...), 0}, {act(1, 4, 0), none, api.ErrAct}, {flip(act(1, 4, 0)), none, api.ErrAct}, {act(1, 6, 0), none, api.ErrAct}, {flip(act(1, 7, 0)), state(append(rules, eq(1, f(x), x)), without(7)...), 0},
		{act(1, 8, 0), none, api.ErrAct}, {act(1, -1, 0), none, api.ErrAct}, {act(1, 2, 1), none, api.ErrAct}, {act(1, 2, -1), none, api.ErrAct}, {act(1, 2, 0, 0), none, api.ErrAct}, {act(1, math.MaxInt, 0), none, api.ErrAct}, {act(1, math.MinInt, 0), none, api.ErrAct},
		{act(2, 1, 0), state(rules, without(1)...), 0}, {act(2, 6, 0), state(rules, without(6)...), 0}, {act(2, 0, 0), none, api.ErrAct}, {act(2, 4, 0), none, api.ErrAct}, {act(2, 8, 0), none, api.ErrAct}, {act(2, -1, 0), none, api.ErrAct}, {act(2, 1, 1), none, api.ErrAct}, {act(2, 1, 0, 0), none, api.ErrAct}, {flip(act(2, 1, 0)), none, api.ErrAct},
		{flip(act(3, 0, 0)), instead(0, eq(0, a(), b())), 0}, {act(3, 0, 0), none, api.ErrAct}, {act(3, 5, 0), instead(5, eq(1, f(x), h(f(f(x)), a()))), 0}, {act(3, 5, 0, 0), instead(5, eq(1, f(x), h(f(f(x)), a()))), 0}, {flip(act(3, 5, 0, 0)), instead(5, eq(1, f(f(f(x))), h(x, a()))), 0}, {flip(act(3, 5, 0)), none, api.ErrAct}, {flip(act(3, 5, 0, 1)), none, api.ErrAct}, {flip(act(3, 5, 0, 2)), none, api.ErrAct}, {flip(act(3, 5, 0, -1)), none, api.ErrAct}, {act(3, 5, 1), none, api.ErrAct}, {act(3, 5, 2), none, api.ErrAct}, {act(3, 5, -1), none, api.ErrAct}, {act(3, 8, 0), none, api.ErrAct}, {act(3, -1, 0), none, api.ErrAct}, {act(3, 6, 0), none, api.ErrAct}, {act(3, 5, 0, 0, 0, 0, 0), none, api.ErrAct},
		{act(4, 0, 1, 0), more(eq(0, f(b()), a())), 0}, {act(4, 0, 0, 0), more(eq(1, f(x), f(x))), 0}, {act(4, 0, 0), none, api.ErrAct}, {act(4, 1, 0), none, api.ErrAct}, {act(4, 0, 1), none, api.ErrAct}, {act(4, 1, 0, 0), none, api.ErrAct}, {act(4, 0, 2, 0), none, api.ErrAct}, {act(4, 2, 0, 0), none, api.ErrAct}, {act(4, -1, 0, 0), none, api.ErrAct}, {act(4, 0, -1, 0), none, api.ErrAct}, {act(4, math.MinInt, 1, 0), none, api.ErrAct}, {act(4, math.MaxInt, 1, 0), none, api.ErrAct}, {act(4, 0, math.MinInt, 0), none, api.ErrAct}, {act(4, 0, 1, 0, 0), none, api.ErrAct}, {flip(act(4, 0, 1, 0)), none, api.ErrAct},
		{act(5, 0, 0), none, api.ErrAct}, {act(5, 1, 0), none, api.ErrAct}, {act(5, 2, 0), none, api.ErrAct}, {act(6, 1, 0), none, api.ErrAct}, {act(6, 0, 1), none, api.ErrAct}, {act(6, 0, 0), none, api.ErrAct}, {act(6, 2, 0), none, api.ErrAct}, {act(6, -1, 0), none, api.ErrAct},
		{api.Cact{}, none, api.ErrAct}, {act(7, 0, 0), none, api.ErrAct}, {act(-1, 0, 0), none, api.ErrAct}, {act(math.MinInt, 0, 0), none, api.ErrAct}, {act(math.MaxInt, 0, 0), none, api.ErrAct},
	} {
		infers(t, i, abfh(), c, e.a, e.want, e.err)
	}
	// Rules that can be used on each other, and on themselves.
	self := eq(1, h(f(x), a()), h(x, a()))
	l := eqns(eq(0, f(f(a())), f(b())), fb, fa, self, eq(1, h(f(f(x)), f(a())), h(f(x), a())))
	c = state(l, eq(0, a(), b()))
	with := func(k int, e api.Eqn) api.Cstate {
		m := slices.Clone(l)
		m[k] = e
		return state(m, c.Open...)
	}
	opens := func(k int, e api.Eqn) api.Cstate {
		return state(slices.Delete(slices.Clone(l), k, k+1), append(slices.Clone(c.Open), e)...)
	}
	for i, e := range []struct {
		a    api.Cact
		want api.Cstate
		err  api.Errno
	}{
		{act(5, 0, 1), with(0, eq(0, f(f(a())), a())), 0}, {act(5, 0, 2), none, api.ErrAct}, {act(5, 0, 1, 0), none, api.ErrAct}, {flip(act(5, 0, 1)), none, api.ErrAct}, {act(5, 4, 3), with(4, eq(1, h(f(f(x)), f(a())), h(x, a()))), 0}, {act(5, 4, 4), none, api.ErrAct}, {act(5, 5, 1), none, api.ErrAct}, {act(5, 0, 5), none, api.ErrAct}, {act(5, 0, -1), none, api.ErrAct}, {act(5, -1, 1), none, api.ErrAct},
		{act(6, 0, 2, 0), opens(0, eq(0, f(b()), f(b()))), 0}, {act(6, 4, 2, 1), opens(4, eq(1, h(f(f(x)), b()), h(f(x), a()))), 0}, {act(6, 0, 0), none, api.ErrAct}, {act(6, 3, 3), none, api.ErrAct}, {act(6, 1, 2), none, api.ErrAct}, {act(6, 0, 2), none, api.ErrAct}, {act(6, 0, 2, 0, 0), none, api.ErrAct}, {act(6, 0, 5, 0), none, api.ErrAct}, {act(6, 5, 2, 0), none, api.ErrAct}, {act(6, 0, -1, 0), none, api.ErrAct}, {flip(act(6, 0, 2, 0)), none, api.ErrAct},
	} {
		infers(t, 100+i, abfh(), c, e.a, e.want, e.err)
	}
	infers(t, "renumbered variables", abfh(), state(eqns(eq(2, h(x, y), y)), eq(3, h(h(x, y), v(2)), y)), act(3, 0, 0, 0), state(eqns(eq(2, h(x, y), y)), eq(2, h(x, y), x)), 0)
	infers(t, "fewer variables", abfh(), state(eqns(eq(2, h(x, y), y)), eq(3, h(h(x, y), v(2)), y)), act(3, 0, 0), state(eqns(eq(2, h(x, y), y)), eq(2, x, y)), 0)
	infers(t, "renumbered variables of a right side", abfh(), state(eqns(eq(2, h(x, y), y)), eq(4, f(x), h(h(y, v(2)), v(3)))), flip(act(3, 0, 0, 0)), state(eqns(eq(2, h(x, y), y)), eq(3, f(x), h(y, v(2)))), 0)
}

// P7.4, P7.5: what is no signature, no order, no plain equation, and no state; in this order.
func TestInferErrors(t *testing.T) {
	w, x, y := abfh(), v(0), v(1)
	bad := abf()
	bad.Ops[0].Name = "b"
	fb := eq(0, f(b()), a())
	wide := eq(65, listed(3, variables(65)...), a())
	two := signature("t u", o("a", 0), o("b", 1), o("f", 0, 0), o("g", 1, 0))
	noPlain := []api.Eqn{
		eq(0, f(b()), a(), a(), a()), eq(1, f(b()), a()), eq(0, f(x), a()), eq(1, f(y), a()), eq(2, h(y, x), a()), eq(2, h(x, x), f(x)), eq(2, f(x), f(v(2))), eq(1, f(x), f(y)), eq(3, h(x, y), x), wide, eq(64, listed(3, variables(65)...), a()),
		{Vars: []int{1}, A: f(x), B: x}, {Vars: []int{-1}, A: f(x), B: x}, eq(0, api.Term{}, a()), eq(0, f(b()), api.Term{}), eq(0, op(4), a()), eq(0, f(b()), op(0, a())), eq(0, times(2, 200, b()), a()), eq(0, f(b()), bush(3, 2, 2001)), eq(0, doubled(3), a()), {},
	}
	calls := func(w completing, rules, open []api.Eqn) []api.Errno {
		_, err := compl.Infer(w.s, w.o, state(rules, open...), api.Cact{})
		return []api.Errno{err}
	}
	completes := func(w completing, l []api.Eqn, most int) []api.Errno {
		_, _, err := compl.Complete(w.s, w.o, l, most)
		return []api.Errno{err, compl.CheckComplete(w.s, w.o, l, []api.Cact{{}}, api.Type{Sig: abf()}, make([]api.Rjoin, 1))}
	}
	check := func(what any, l []api.Errno, want api.Errno) {
		t.Helper()
		for k, err := range l {
			if err != want {
				t.Errorf("%v, call %d: error %d; want %d", what, k, err, want)
			}
		}
	}
	for i, e := range noPlain {
		check(i, calls(w, nil, eqns(fb, e)), api.ErrArg)
		check(i, calls(w, eqns(fb, e), nil), api.ErrArg)
		check(i, completes(w, eqns(fb, e), 10), api.ErrArg)
		check(i, completes(w, eqns(e, fb), 10), api.ErrArg)
		for _, o := range []api.Order{{}, order(1, 0, 1, 2), order(4, 0, 1, 2, 3), order(1, 0, 1, 2, 256)} {
			check("no order", calls(completing{w.s, o}, eqns(e), nil), api.ErrOrder)
			check("no order", completes(completing{w.s, o}, eqns(e), 10), api.ErrOrder)
		}
		check("no signature", calls(completing{bad, api.Order{}}, eqns(e), nil), api.ErrSig)
		check("no signature", completes(completing{bad, api.Order{}}, eqns(e), 10), api.ErrSig)
	}
	for i, e := range []api.Eqn{eq(0, f(b()), f(b())), eq(0, a(), b()), eq(1, x, x), eq(1, x, f(x)), eq(2, f(x), f(y)), eq(2, f(x), y), eq(2, h(x, y), h(y, x)), eq(2, x, y)} {
		check(i, calls(w, eqns(fb, e), nil), api.ErrArg)
		check(i, calls(w, eqns(e), eqns(fb)), api.ErrArg)
		check(i, calls(w, nil, eqns(e)), api.ErrAct)
	}
	for i, e := range []api.Eqn{{A: op(0), B: op(1)}, {Vars: []int{0}, A: op(2, x), B: op(1)}, {Vars: []int{1}, A: op(2, x), B: op(0)}, {Vars: []int{0}, A: op(3, x), B: op(0)}, {Vars: []int{0, 1}, A: x, B: y}, {Vars: []int{1, 0}, A: op(3, x), B: op(2, x)}, {Vars: []int{2}, A: x, B: x}} {
		v := completing{two, order(1, 0, 1, 2, 3)}
		check(i, calls(v, nil, eqns(e)), api.ErrArg)
		check(i, completes(v, eqns(e), 10)[:1], api.ErrArg)
	}
	check("sorts that fit", calls(completing{two, order(1, 0, 1, 2, 3)}, nil, eqns(api.Eqn{Vars: []int{1, 0}, A: op(3, x), B: op(2, y)}, api.Eqn{Vars: []int{1}, A: x, B: op(1)}, api.Eqn{Vars: []int{1, 1}, A: x, B: y})), api.ErrAct)
	check("64 variables", calls(w, nil, eqns(eq(64, listed(3, variables(64)...), a()))), api.ErrAct)
	check("400 rules, 2000 open equations", calls(w, repeatedEqn(400, fb), repeatedEqn(2000, eq(0, a(), b()))), api.ErrAct)
	check("401 rules", calls(w, repeatedEqn(401, fb), nil), api.ErrArg)
	check("2001 open equations", calls(w, nil, repeatedEqn(2001, fb)), api.ErrArg)
}

func variables(many int) []api.Term {
	var l []api.Term
	for n := range many {
		l = append(l, v(n))
	}
	return l
}

func repeatedEqn(many int, e api.Eqn) []api.Eqn { return slices.Repeat(eqns(e), many) }

// P7.4: too many rules and open equations, variables, and terms that are too great; what cannot be made comes first.
func TestInferLimits(t *testing.T) {
	x, y := v(0), v(1)
	fb, ab := eq(0, f(b()), a()), eq(0, a(), b())
	of := func(w completing, what string, c api.Cstate, a api.Cact, want api.Errno) {
		t.Helper()
		if _, err := compl.Infer(w.s, w.o, c, a); err != want {
			t.Errorf("%s: error %d; want %d", what, err, want)
		}
	}
	w := abfh()
	of(w, "the 400th rule", state(repeatedEqn(399, fb), fb), act(1, 0, 0), api.OK)
	of(w, "the 401st rule", state(repeatedEqn(400, fb), fb), act(1, 0, 0), api.ErrLimit)
	of(w, "the 401st rule, which is none", state(repeatedEqn(400, fb), ab), act(1, 0, 0), api.ErrAct)
	of(w, "400 rules that are changed", state(repeatedEqn(400, eq(0, f(f(b())), f(b()))), fb), act(6, 7, 8, 1), api.ErrAct)
	of(w, "400 rules that are changed", state(append(repeatedEqn(399, eq(0, f(f(b())), f(b()))), fb)), act(5, 7, 399), api.OK)
	pair := eqns(eq(0, f(f(b())), a()), fb)
	of(w, "the 2000th open equation", state(pair, repeatedEqn(1999, ab)...), act(4, 0, 1, 0), api.OK)
	of(w, "the 2001st open equation", state(pair, repeatedEqn(2000, ab)...), act(4, 0, 1, 0), api.ErrLimit)
	of(w, "the 2001st open equation, which is none", state(pair, repeatedEqn(2000, ab)...), act(4, 0, 1), api.ErrAct)
	of(w, "the 2000th open equation of a rule", state(pair, repeatedEqn(1999, ab)...), act(6, 0, 1, 0), api.OK)
	of(w, "the 2001st open equation of a rule", state(pair, repeatedEqn(2000, ab)...), act(6, 0, 1, 0), api.ErrLimit)
	of(w, "the 2001st open equation of a rule, which is none", state(pair, repeatedEqn(2000, ab)...), act(6, 0, 1), api.ErrAct)
	of(w, "2000 open equations that are changed", state(pair, repeatedEqn(2000, fb)...), act(3, 1999, 1), api.OK)

	broad := func(many int) api.Cstate {
		one := listed(3, append([]api.Term{f(v(0))}, variables(33)[1:]...)...)
		other := f(listed(3, variables(many)...))
		return state(eqns(eq(33, one, a()), eq(many, other, other.L[0])))
	}
	of(w, "64 variables", broad(32), act(4, 0, 1, 0), api.OK)
	of(w, "65 variables", broad(33), act(4, 0, 1, 0), api.ErrLimit)
	of(w, "65 variables of a pair that is not asked for", broad(33), act(4, 0, 1), api.ErrAct)
	of(w, "65 variables of a pair that is not asked for", state(append(broad(33).Rules, eq(1, f(f(x)), x))), act(4, 2, 2, 0), api.OK)

	grows := completing{abf(), order(api.ByLeft, 0, 1, 5, 3)}
	twice := eq(1, f(x), h(x, x))
	small, great := bush(3, 2, 999), bush(3, 2, 1000)
	big := func(x api.Term) api.Eqn { return eq(0, f(x), b()) }
	of(grows, "1999 nodes", state(eqns(twice), big(small)), act(3, 0, 0), api.OK)
	of(grows, "2001 nodes", state(eqns(twice), big(great)), act(3, 0, 0), api.ErrLimit)
	of(grows, "1999 nodes of a right side", state(eqns(twice), eq(0, b(), f(small))), flip(act(3, 0, 0)), api.OK)
	of(grows, "2001 nodes of a right side", state(eqns(twice), eq(0, b(), f(great))), flip(act(3, 0, 0)), api.ErrLimit)
	of(grows, "1999 nodes of a rule", state(eqns(twice, big(small))), act(6, 1, 0), api.OK)
	of(grows, "2001 nodes of a rule", state(eqns(twice, big(great))), act(6, 1, 0), api.ErrLimit)
	of(grows, "1999 nodes of a rule's right side", state(eqns(twice, eq(0, f(f(small)), f(small)))), act(5, 1, 0), api.OK)
	of(grows, "2001 nodes of a rule's right side", state(eqns(twice, eq(0, f(f(great)), f(great)))), act(5, 1, 0), api.ErrLimit)
	of(grows, "pairs of 1999 nodes", state(eqns(twice, big(small), eq(1, f(f(x)), x))), act(4, 2, 2, 0), api.OK)
	of(grows, "another pair of 2001 nodes", state(eqns(twice, big(great), eq(1, f(f(x)), x))), act(4, 2, 2, 0), api.ErrLimit)
	of(grows, "pairs of 2001 nodes, and none that is asked for", state(eqns(twice, big(great))), act(4, 0, 5), api.ErrLimit)
	of(w, "20000 pairs", state(slices.Concat(repeatedEqn(200, fb), repeatedEqn(11, eq(0, f(f(f(a()))), a())), repeatedEqn(10, eq(0, h(b(), b()), a())))), act(4, 1, 0), api.OK)
	of(w, "20001 pairs", state(slices.Concat(repeatedEqn(200, fb), repeatedEqn(11, eq(0, f(f(f(a()))), a())), repeatedEqn(10, eq(0, h(b(), b()), a())), repeatedEqn(2, eq(0, h(a(), b()), a())))), act(4, 1, 0), api.ErrLimit)
	one, other := tangle(2, 14)
	tangled := state(eqns(eq(30, h(a(), one), a()), eq(31, h(a(), other), a())))
	for i := range tangled.Rules {
		e := &tangled.Rules[i]
		*e = right(make([]int, 64), e.A, e.B)
	}
	of(w, "a long unification", tangled, act(4, 0, 1), api.ErrLimit)
	of(w, "a long unification that is not looked at", tangled, act(5, 0, 1), api.ErrAct)
	of(w, "a rule that is no longer", state(eqns(eq(2, h(x, y), y))), act(4, 0, 0), api.ErrAct)
}

// P7.4: states and inferences that were made by chance.
func TestInferByWords(t *testing.T) {
	met := map[[2]int]int{}
	for seed := range int64(1200) {
		g := newMaker(seed + 30000)
		w, l := g.given()
		c := api.Cstate{Open: l}
		for range 25 {
			x := g.act(w, c)
			if g.once(3) {
				x = g.flawedAct(x)
			}
			want, wrong := w.infer(c, x)
			got, err := compl.Infer(w.s, w.o, c, x)
			if err != wrong || !same(got, want) {
				t.Fatalf("%d: by %v, Infer(%v, %v): %v, error %d; want %v, error %d", seed, w.o, c, x, got, err, want, wrong)
			}
			met[[2]int{x.Kind, int(err)}]++
			if err == api.OK {
				c = got
			}
		}
	}
	for kind := api.CaOrient; kind <= api.CaCollapse; kind++ {
		if met[[2]int{kind, int(api.OK)}] < 50 || met[[2]int{kind, int(api.ErrAct)}] < 100 {
			t.Errorf("met: %v", met)
		}
	}
}

// Infer changes no arguments, and its results are new memory.
func TestInferMemory(t *testing.T) {
	w := abfh()
	c := state(eqns(eq(1, f(f(v(0))), v(0)), eq(0, f(f(b())), f(f(a())))), eq(0, a(), f(f(b()))), eq(2, h(v(0), v(1)), h(v(0), v(1))), eq(2, h(v(0), v(1)), v(1)))
	for _, x := range []api.Cact{act(1, 2, 0), flip(act(1, 0, 0)), act(2, 1, 0), flip(act(3, 0, 0)), act(4, 0, 0, 0), act(4, 0, 1, 0), act(5, 1, 0), act(6, 1, 0)} {
		untouched(t, "Infer", func() []any {
			y, err := compl.Infer(w.s, w.o, c, x)
			if err != api.OK {
				t.Errorf("%v: error %d", x, err)
			}
			return []any{y}
		}, w.s, w.o, c, x)
	}
}
