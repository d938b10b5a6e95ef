package compl_test

import (
	"math"
	"slices"
	"testing"

	"madrigal/api"
	"madrigal/compl"
	"madrigal/types"
)

// example is the chapter's example, of which whole is the completion.
func example() []api.Eqn { return eqns(eq(1, f(f(v(0))), v(0)), eq(0, a(), f(b()))) }

// completes checks what Complete returns, and that it does so with just as many inferences.
func completes(t *testing.T, what any, w completing, l, rules []api.Eqn, acts []api.Cact) {
	t.Helper()
	x, got, err := compl.Complete(w.s, w.o, l, len(acts))
	if err != api.OK || !same(x, api.Type{Sig: w.s, Eqns: rules}) || !same(got, acts) {
		t.Errorf("%v: %v, %v, error %d; want %v, %v", what, x.Eqns, got, err, rules, acts)
	}
	if x, got, err := compl.Complete(w.s, w.o, l, len(acts)-1); len(acts) > 0 && (err != api.ErrLimit || !same(x, api.Type{}) || len(got) > 0) {
		t.Errorf("%v, with an inference less: %v, %v, error %d", what, x, got, err)
	}
	if c, err := w.complete(l, 20000); err != api.OK || !same(c.Rules, rules) || !same(c.acts, acts) {
		t.Errorf("%v: the words: %v, %v, error %d", what, c.Rules, c.acts, err)
	}
}

// P7.5: completions, and their inferences.
func TestComplete(t *testing.T) {
	w, x, y := abfh(), v(0), v(1)
	completes(t, "the example", w, example(), whole().Eqns, []api.Cact{act(1, 0, 0), act(4, 0, 0, 0), flip(act(1, 0, 0)), act(4, 0, 1, 0), act(2, 0, 0), act(1, 0, 0), act(4, 0, 2, 0), act(3, 0, 1), act(2, 0, 0)})
	completes(t, "nothing", w, nil, nil, nil)
	completes(t, "what is the same", w, eqns(eq(0, a(), a()), eq(1, x, x)), nil, []api.Cact{act(2, 0, 0), act(2, 0, 0)})
	completes(t, "a side that is a variable", w, eqns(eq(1, x, f(x))), eqns(eq(1, f(x), x)), []api.Cact{flip(act(1, 0, 0))})
	completes(t, "a rule that collapses", w, eqns(eq(0, f(f(b())), a()), eq(0, f(b()), a())), eqns(eq(0, f(b()), a()), eq(0, f(a()), a())), []api.Cact{act(1, 0, 0), act(1, 0, 0), act(6, 0, 1, 0), act(1, 0, 0)})
	completes(t, "a rule that collapses at the root", w, eqns(eq(0, f(f(a())), b()), eq(1, f(x), x)), eqns(eq(1, f(x), x), eq(0, b(), a())), []api.Cact{act(1, 0, 0), act(1, 0, 0), act(6, 0, 1, 0), act(3, 0, 0), flip(act(1, 0, 0))})
	completes(t, "a rule that is composed", w, eqns(eq(0, f(f(b())), f(a())), eq(0, f(a()), b())), eqns(eq(0, f(f(b())), b()), eq(0, f(a()), b())), []api.Cact{act(1, 0, 0), act(1, 0, 0), act(5, 0, 1)})
	completes(t, "a rule that is composed twice", w, eqns(eq(0, h(a(), a()), f(f(a()))), eq(0, f(a()), b()), eq(0, f(b()), a())), eqns(eq(0, h(a(), a()), a()), eq(0, f(a()), b()), eq(0, f(b()), a())), []api.Cact{act(1, 0, 0), act(1, 0, 0), act(5, 0, 1, 0), act(1, 0, 0), act(5, 0, 2)})
	completes(t, "rules that collapse one after the other", w, eqns(eq(0, h(f(b()), b()), b()), eq(0, h(a(), a()), a()), eq(0, h(a(), f(b())), b()), eq(0, f(b()), b())),
		eqns(eq(0, h(a(), a()), a()), eq(0, f(b()), b()), eq(0, h(b(), b()), b()), eq(0, h(a(), b()), b())),
		[]api.Cact{act(1, 0, 0), act(1, 0, 0), act(1, 0, 0), act(1, 0, 0), act(6, 0, 3, 0), act(6, 1, 2, 1), act(1, 0, 0), act(1, 0, 0)})
	completes(t, "sides that are rewritten, innermost places first", w, eqns(eq(1, h(x, x), f(x)), eq(0, h(h(a(), a()), h(b(), b())), h(f(a()), h(a(), a())))),
		eqns(eq(1, h(x, x), f(x)), eq(0, h(f(a()), f(b())), f(f(a())))), []api.Cact{act(1, 0, 0), act(3, 0, 0, 0), act(3, 0, 0, 1), flip(act(3, 0, 0, 1)), flip(act(3, 0, 0)), act(1, 0, 0)})
	completes(t, "pairs of the last rule, and a rule that goes behind them", w, eqns(eq(1, f(f(x)), x), eq(1, h(f(x), f(x)), a())), eqns(eq(1, f(f(x)), x), eq(1, h(x, x), a())),
		[]api.Cact{act(1, 0, 0), act(4, 0, 0, 0), act(1, 0, 0), act(4, 1, 0, 0), act(4, 1, 0, 1), act(2, 0, 0), act(3, 0, 0, 1), act(1, 0, 0), act(6, 1, 2), act(3, 0, 0, 0), act(3, 0, 1), act(2, 0, 0), act(2, 0, 0)})
	completes(t, "pairs of the last rule, as Other and as One", w, eqns(eq(1, h(f(x), x), a()), eq(1, f(h(x, a())), b()), eq(0, f(a()), a())),
		eqns(eq(1, h(f(x), x), a()), eq(1, f(h(x, a())), a()), eq(0, f(a()), a()), eq(0, b(), a()), eq(0, h(a(), a()), a()), eq(1, h(a(), h(x, a())), a())),
		[]api.Cact{
			act(1, 0, 0), act(1, 0, 0), act(4, 0, 1, 0), act(4, 1, 0, 0), act(1, 0, 0), act(4, 0, 2, 0), act(1, 0, 0), act(4, 3, 0, 1), act(3, 0, 2), flip(act(1, 0, 0)), act(6, 3, 4, 0), act(5, 1, 3), act(1, 0, 0), act(4, 1, 4, 0), act(3, 0, 3, 0), act(3, 0, 4), act(2, 0, 0),
			act(1, 0, 0), act(4, 5, 0, 1), act(4, 5, 4, 1), act(3, 0, 2), act(2, 0, 0), act(3, 0, 4), act(2, 0, 0), act(3, 0, 4), act(2, 0, 0)})
	completes(t, "variables that are numbered anew", w, eqns(eq(2, f(x), h(y, x))), eqns(eq(2, h(x, y), f(y))), []api.Cact{flip(act(1, 0, 0))})
}

// P7.5: what cannot be completed, and what would be too much.
func TestCompleteErrors(t *testing.T) {
	w, x, y := abfh(), v(0), v(1)
	swap := eq(2, h(x, y), h(y, x))
	grows := completing{abf(), order(api.ByLeft, 0, 1, 5, 3)}
	for i, c := range []struct {
		w    completing
		l    []api.Eqn
		most int
		err  api.Errno
	}{
		{w, example(), -1, api.ErrArg}, {w, example(), 20001, api.ErrArg}, {w, example(), math.MinInt, api.ErrArg}, {w, example(), math.MaxInt, api.ErrArg}, {w, example(), 20000, 0}, {w, example(), 9, 0}, {w, example(), 8, api.ErrLimit}, {w, example(), 0, api.ErrLimit}, {w, nil, -1, api.ErrArg}, {w, nil, 20001, api.ErrArg}, {w, nil, 0, 0},
		{w, eqns(swap), 0, api.ErrHalt}, {w, eqns(swap), 100, api.ErrHalt}, {w, eqns(swap), -1, api.ErrArg}, {w, eqns(swap, eq(1, h(x, x), x)), 0, api.ErrHalt}, {w, eqns(eq(1, h(x, x), x), swap), 0, api.ErrLimit}, {w, eqns(eq(1, h(x, x), x), swap), 1, api.ErrHalt}, {w, eqns(eq(2, f(x), f(y))), 0, api.ErrHalt}, {w, eqns(eq(2, x, y)), 0, api.ErrHalt}, {w, eqns(eq(2, f(x), y)), 5, api.ErrHalt}, {w, eqns(eq(2, f(f(x)), f(y)), eq(1, f(x), a())), 5, api.ErrHalt}, {w, eqns(eq(1, f(x), a()), eq(2, f(f(x)), f(y))), 5, 0},
		{grows, eqns(eq(1, f(x), h(x, x)), eq(0, f(bush(3, 2, 999)), b())), 100, api.ErrLimit}, {grows, eqns(eq(3, h(h(x, y), v(2)), h(x, h(y, v(2)))), eq(2, f(h(x, y)), h(f(x), f(y)))), 13, 0}, {grows, eqns(eq(3, h(h(x, y), v(2)), h(x, h(y, v(2)))), eq(2, f(h(x, y)), h(f(x), f(y)))), 12, api.ErrLimit}, {w, eqns(eq(3, h(h(x, y), v(2)), h(x, h(y, v(2)))), eq(2, f(h(x, y)), h(f(x), f(y)))), 100, api.ErrLimit},
	} {
		z, acts, err := compl.Complete(c.w.s, c.w.o, c.l, c.most)
		if err != c.err || err != api.OK && (!same(z, api.Type{}) || len(acts) > 0) {
			t.Errorf("%d: error %d; want %d", i, err, c.err)
		}
		if c.most < 0 || c.most > 20000 {
			continue
		}
		if _, err := c.w.complete(c.l, c.most); err != c.err {
			t.Errorf("%d: the words: error %d; want %d", i, err, c.err)
		}
	}
	if _, _, err := compl.Complete(w.s, w.o, repeatedEqn(401, swap), 10); err != api.ErrArg {
		t.Errorf("401 equations: error %d", err)
	}
	if x, acts, err := compl.Complete(w.s, w.o, repeatedEqn(400, eq(0, f(b()), a())), 1600); err != api.OK || len(x.Eqns) != 1 || len(acts) != 1+399*2 {
		t.Errorf("400 equations: %d rules, %d inferences, error %d", len(x.Eqns), len(acts), err)
	}
}

// P7.5: too many rules.
func TestCompleteLimits(t *testing.T) {
	s := signature("t", o("a", 0), o("b", 0), o("f", 0, 0), o("g", 0, 0), o("h", 0, 0), o("i", 0, 0))
	w := completing{s, order(api.ByLeft, 0, 1, 2, 3, 4, 5)}
	var l []api.Eqn
	for n := range 397 {
		l = append(l, eq(0, op(3+n%3, times(2, 2+n/3, b())), a()))
	}
	two := eqns(eq(1, op(3, op(4, v(0))), a()), eq(0, op(4, b()), f(b())))
	if x, _, err := compl.Complete(s, w.o, append(l, two...), 20000); err != api.ErrLimit {
		t.Errorf("401 rules: %d, error %d", len(x.Eqns), err)
	}
	if x, _, err := compl.Complete(s, w.o, append(l[:396:396], two...), 20000); err != api.OK || len(x.Eqns) != 400 {
		t.Errorf("400 rules: %d, error %d", len(x.Eqns), err)
	}
}

// P7.5, P7.12: inferences and joins that are accepted, and what is none.
func TestCheckComplete(t *testing.T) {
	w := abfh()
	x, acts, _ := compl.Complete(w.s, w.o, example(), 100)
	joins, _, _ := compl.Confluent(x, 100)
	other := abf()
	other.Ops[3].Name = "k"
	swapped := data(abf(), x.Eqns[1], x.Eqns[0], x.Eqns[2])
	extra := data(abf(), append(slices.Clone(x.Eqns), eq(0, f(f(b())), b()))...)
	gaps := data(abf(), append(eqns(eq(2, f(f(v(1))), v(1))), x.Eqns[1:]...)...)
	wide := data(abf(), append(eqns(eq(2, f(f(v(0))), v(0))), x.Eqns[1:]...)...)
	conds := data(abf(), append(eqns(eq(1, f(f(v(0))), v(0), a(), a())), x.Eqns[1:]...)...)
	none := data(abf(), eq(0, f(b()), v(0)))
	check := func(what string, s api.Sig, o api.Order, l []api.Eqn, acts []api.Cact, y api.Type, joins []api.Rjoin, want api.Errno) {
		t.Helper()
		if err := compl.CheckComplete(s, o, l, acts, y, joins); err != want {
			t.Errorf("%s: error %d; want %d", what, err, want)
		}
	}
	of := func(what string, acts []api.Cact, y api.Type, joins []api.Rjoin, want api.Errno) {
		t.Helper()
		check(what, w.s, w.o, example(), acts, y, joins, want)
	}
	changed := func(k int, a api.Cact) []api.Cact { l := slices.Clone(acts); l[k] = a; return l }
	of("the example", acts, x, joins, api.OK)
	of("an inference less at the end", acts[:8], x, joins, api.ErrAct)
	of("an inference less at the beginning", acts[1:], x, joins, api.ErrAct)
	of("no inferences", nil, x, joins, api.ErrAct)
	of("an inference more", append(slices.Clone(acts), act(2, 0, 0)), x, joins, api.ErrAct)
	of("an open equation that is left", append(slices.Clone(acts), act(4, 0, 0, 0)), x, joins, api.ErrAct)
	of("an inference more that changes nothing", append(slices.Clone(acts), act(4, 0, 0, 0), act(2, 0, 0)), x, joins, api.OK)
	of("another inference", changed(2, act(1, 0, 0)), x, joins, api.ErrAct)
	of("an inference that names too much", changed(0, act(1, 0, 1)), x, joins, api.ErrAct)
	of("rules in another order", acts, swapped, joins, api.ErrAct)
	of("a rule more", acts, extra, joins, api.ErrAct)
	of("a rule less", acts, data(abf(), x.Eqns[:2]...), nil, api.ErrAct)
	of("other variables", acts, gaps, joins, api.ErrAct)
	of("a sort more", acts, wide, joins, api.ErrAct)
	of("a condition more", acts, conds, joins, api.ErrAct)
	of("another signature", acts, data(other, x.Eqns...), joins, api.ErrAct)
	of("no joins", acts, x, nil, api.ErrJoin)
	of("a join less", acts, x, joins[:2], api.ErrJoin)
	of("a join more", acts, x, append(slices.Clone(joins), api.Rjoin{}), api.ErrJoin)
	of("another join", acts, x, []api.Rjoin{{}, {}, joins[2]}, api.ErrJoin)
	of("a step that is none", acts, x, []api.Rjoin{{}, joins[2], joins[1]}, api.ErrStep)
	of("a wrong inference and a wrong join", acts[:8], x, nil, api.ErrAct)
	of("a wrong inference and another type", acts[1:], swapped, nil, api.ErrAct)
	of("no type", acts, none, joins, api.ErrType)
	of("no type, and nothing else", nil, none, nil, api.ErrType)
	check("no equations of the rules", w.s, w.o, nil, nil, data(abf()), nil, api.OK)
	check("other equations", w.s, w.o, eqns(example()[1], example()[0]), acts, x, joins, api.ErrAct)
	check("401 equations", w.s, w.o, repeatedEqn(401, example()[0]), nil, x, joins, api.ErrArg)
	bad := abf()
	bad.Sorts = nil
	check("no signature", bad, w.o, example(), acts, x, joins, api.ErrSig)
	check("no order", w.s, order(1, 0, 1, 2), example(), acts, x, joins, api.ErrOrder)
	check("another order", w.s, order(1, 2, 1, 0, 3), example(), acts, x, joins, api.ErrAct)
	check("no type and no order", w.s, order(1, 0, 1, 2), example(), acts, none, joins, api.ErrType)
	check("no type and no equations", w.s, w.o, eqns(eq(1, a(), b())), acts, none, joins, api.ErrType)
	check("no equations and a wrong inference", w.s, w.o, eqns(eq(1, a(), b())), acts[1:], x, joins, api.ErrArg)

	again := []api.Cact{act(1, 0, 0)}
	for range 9999 {
		again = append(again, act(4, 0, 0, 0), act(2, 0, 0))
	}
	one := eqns(eq(1, f(f(v(0))), v(0)))
	check("19999 inferences", w.s, w.o, one, again, data(abf(), one...), make([]api.Rjoin, 1), api.OK)
	two := append(eqns(eq(0, a(), a())), one...)
	again = append([]api.Cact{act(2, 0, 0)}, again...)
	check("20000 inferences", w.s, w.o, two, again, data(abf(), one...), make([]api.Rjoin, 1), api.OK)
	check("20001 inferences", w.s, w.o, append(eqns(eq(0, a(), a())), two...), append([]api.Cact{act(2, 0, 0)}, again...), data(abf(), one...), make([]api.Rjoin, 1), api.ErrArg)
	check("20001 inferences that are none", w.s, w.o, one, make([]api.Cact, 20001), data(abf(), one...), nil, api.ErrArg)
	check("an inference that is too much", w.s, w.o, repeatedEqn(400, one[0]), slices.Concat(slices.Repeat([]api.Cact{act(1, 0, 0)}, 400), []api.Cact{act(4, 1, 0)}), x, joins, api.ErrLimit)
}

// P7.5, P7.8, P7.12: equations that were made by chance, and inferences with small flaws.
func TestCompleteByWords(t *testing.T) {
	met, kinds, refused := map[api.Errno]int{}, map[int]int{}, 0
	for seed := range int64(900) {
		g := newMaker(seed + 40000)
		w, l := g.given()
		most := 120
		want, wrong := w.complete(l, most)
		x, acts, err := compl.Complete(w.s, w.o, l, most)
		if err != wrong || !same(x.Eqns, want.Rules) || !same(acts, want.acts) || err == api.OK && !types.Same(x, w.with(want.Rules).t) {
			t.Fatalf("%d: by %v, Complete(%v): %v, %v, error %d; want %v, %v, error %d", seed, w.o, l, x.Eqns, acts, err, want.Rules, want.acts, wrong)
		}
		met[err]++
		if err != api.OK {
			continue
		}
		for _, a := range acts {
			kinds[a.Kind]++
		}
		if _, _, err := compl.Complete(w.s, w.o, l, len(acts)-1); len(acts) > 0 && err != api.ErrLimit {
			t.Fatalf("%d: by %v, Complete(%v) with an inference less: error %d", seed, w.o, l, err)
		}
		joins, k, err := compl.Confluent(x, 1000)
		if err != api.OK || k != -1 {
			t.Fatalf("%d: by %v, Confluent of %v: %d, error %d", seed, w.o, x.Eqns, k, err)
		}
		if err := compl.CheckComplete(w.s, w.o, l, acts, x, joins); err != api.OK {
			t.Fatalf("%d: by %v, CheckComplete(%v, %v, %v): error %d", seed, w.o, l, acts, x.Eqns, err)
		}
		for range 8 {
			if len(acts) == 0 {
				break
			}
			m, y := slices.Clone(acts), x
			switch i := g.r.Intn(len(m)); g.r.Intn(5) {
			case 0:
				m = slices.Delete(m, i, i+1)
			case 1:
				m = slices.Insert(m, i, m[g.r.Intn(len(m))])
			case 2:
				j := g.r.Intn(len(m))
				m[i], m[j] = m[j], m[i]
			case 3:
				m[i] = g.flawedAct(m[i])
			case 4:
				y = copied(x)
				if len(y.Eqns) > 1 {
					y.Eqns[0], y.Eqns[1] = y.Eqns[1], y.Eqns[0]
				}
			}
			err, wrong := compl.CheckComplete(w.s, w.o, l, m, y, joins), w.checkComplete(l, m, y, joins)
			if err != wrong {
				t.Fatalf("%d: by %v, CheckComplete(%v, %v, %v): error %d; want %d", seed, w.o, l, m, y.Eqns, err, wrong)
			}
			if err != api.OK {
				refused++
			}
		}
	}
	for kind := api.CaOrient; kind <= api.CaCollapse; kind++ {
		if kinds[kind] < 10 {
			t.Errorf("kinds: %v", kinds)
		}
	}
	if met[api.OK] < 200 || met[api.ErrHalt] < 50 || met[api.ErrLimit] < 20 || refused < 300 {
		t.Errorf("met: %v; %d proofs were refused", met, refused)
	}
}

// Complete and CheckComplete change no arguments, and results are new memory.
func TestCompleteMemory(t *testing.T) {
	w, l := abfh(), append(example(), eq(2, h(f(v(0)), v(1)), v(0)))
	untouched(t, "Complete", func() []any {
		x, acts, err := compl.Complete(w.s, w.o, l, 20000)
		if err != api.OK || len(x.Eqns) < 4 {
			t.Errorf("%v, error %d", x.Eqns, err)
		}
		return []any{x, acts}
	}, w.s, w.o, l)
	x, acts, _ := compl.Complete(w.s, w.o, l, 20000)
	joins, _, _ := compl.Confluent(x, 100)
	untouched(t, "CheckComplete", func() []any {
		if err := compl.CheckComplete(w.s, w.o, l, acts, x, joins); err != api.OK {
			t.Errorf("error %d", err)
		}
		return nil
	}, w.s, w.o, l, acts, x, joins)
}
