package paths_test

import (
	"testing"

	"madrigal/api"
	"madrigal/paths"
)

// The proofs by each rule.
func sub(at int, l ...api.PathProof) api.PathProof {
	return api.PathProof{Rule: api.PathSub, At: at, L: l}
}

func place(l ...api.PathProof) api.PathProof { return api.PathProof{Rule: api.PathPlace, L: l} }

func lex(at int, l ...api.PathProof) api.PathProof {
	return api.PathProof{Rule: api.PathLex, At: at, L: l}
}

// multi takes the indices first, and then the proofs.
func multi(l ...any) api.PathProof {
	p := api.PathProof{Rule: api.PathMulti}
	for _, x := range l {
		if i, is := x.(int); is {
			p.To = append(p.To, i)
		} else {
			p.L = append(p.L, x.(api.PathProof))
		}
	}
	return p
}

// pair is the proof of what is in a pair.
var pair = api.PathProof{}

// prove is Prove of what has to be terms, checked.
func prove(t *testing.T, s api.Sig, o api.Order, a, b api.Term) (api.PathProof, bool) {
	t.Helper()
	p, is, err := paths.Prove(s, o, a, b)
	if err != api.OK || !is && !same(p, api.PathProof{}) {
		t.Fatalf("Prove(%v, %v, %v): %v, error %d", o, a, b, is, err)
	}
	return p, is
}

// P6.2: proofs, and what they are where there is just one.
func TestOnlyProofs(t *testing.T) {
	s := signature(o("a", 0), o("b", 0), o("f", 1), o("h", 2), o("m", 3))
	a, b, x, y := op(0), op(1), v(0), v(1)
	f := func(x api.Term) api.Term { return op(2, x) }
	h := func(x, y api.Term) api.Term { return op(3, x, y) }
	m := func(x, y, z api.Term) api.Term { return op(4, x, y, z) }
	left, right, bags := order(1, 0, 1, 2, 3, 4), order(2, 0, 1, 2, 3, 4), order(3, 0, 1, 2, 3, 4)
	level, levelBags := order(1, 0, 1, 2, 2, 2), order(3, 0, 1, 2, 2, 2)
	for i, c := range []struct {
		o    api.Order
		a, b api.Term
		p    api.PathProof
	}{
		{left, f(x), x, sub(0)}, {left, h(a, x), x, sub(1)}, {left, h(a, f(f(x))), x, sub(1, sub(0, sub(0)))}, {left, m(a, f(x), b), f(x), api.PathProof{}},
		{left, b, a, place()}, {left, h(x, y), f(x), place(sub(0))}, {left, m(x, y, y), h(y, f(x)), api.PathProof{}}, {left, h(x, y), f(f(x)), place(place(sub(0)))}, {left, m(x, y, x), h(y, y), place(sub(1), sub(1))},
		{left, f(b), f(a), api.PathProof{}}, {left, h(f(x), y), h(x, f(f(x))), api.PathProof{}}, {left, h(x, f(y)), h(x, y), lex(1, sub(0), sub(0), sub(1, sub(0)))}, {right, h(f(x), y), h(x, y), lex(1, sub(0), sub(0, sub(0)), sub(1))}, {right, h(x, f(y)), h(x, y), lex(0, sub(0), sub(0), sub(1, sub(0)))}, {left, m(x, f(y), f(a)), m(x, y, a), api.PathProof{}},
		{level, h(x, y), f(x), lex(1, sub(0))}, {level, m(x, y, a), h(x, y), lex(2, sub(0), sub(1))}, {level, h(f(x), y), f(x), api.PathProof{}},
		{bags, h(f(x), y), h(y, x), multi(1, 0, pair, sub(0))}, {levelBags, h(x, y), f(y), multi(1, pair)}, {levelBags, m(x, y, x), h(y, y), api.PathProof{}}, {bags, m(f(x), y, v(2)), m(x, y, x), multi(0, 1, 0, sub(0), pair, sub(0))}, {bags, m(f(x), y, y), m(x, x, y), api.PathProof{}}, {levelBags, m(x, x, y), h(x, y), api.PathProof{}},
	} {
		p, is := prove(t, s, c.o, c.a, c.b)
		if want := (words{c.o}).greater(c.a, c.b); is != want || is && !(words{c.o}).isProof(p, c.a, c.b) {
			t.Errorf("%d: Prove(%v, %v): %v, %v; want %v", i, c.a, c.b, p, is, want)
		}
		if !same(c.p, api.PathProof{}) && !same(p, c.p) {
			t.Errorf("%d: Prove(%v, %v): %v; want %v", i, c.a, c.b, p, c.p)
		}
		if err := paths.Verify(s, c.o, c.a, c.b, c.p); !same(c.p, api.PathProof{}) && err != api.OK {
			t.Errorf("%d: Verify(%v, %v, %v): error %d", i, c.a, c.b, c.p, err)
		}
	}
	p, is := prove(t, nat().Sig, order(1, 0, 0, 1), add(v(0), succ(v(1))), succ(add(v(0), v(1))))
	if want := place(lex(1, sub(0), sub(0), sub(1, sub(0)))); !is || !same(p, want) {
		t.Errorf("the example: %v, %v", p, is)
	}
}

// P6.2: what is a proof, and what is none by a small flaw.
func TestVerify(t *testing.T) {
	s := signature(o("a", 0), o("b", 0), o("f", 1), o("h", 2), o("m", 3))
	a, b, x, y := op(0), op(1), v(0), v(1)
	f := func(x api.Term) api.Term { return op(2, x) }
	h := func(x, y api.Term) api.Term { return op(3, x, y) }
	m := func(x, y, z api.Term) api.Term { return op(4, x, y, z) }
	left, right, bags := order(1, 0, 1, 2, 3, 4), order(2, 0, 1, 2, 3, 4), order(3, 0, 1, 2, 3, 4)
	level, levelRight, levelBags := order(1, 0, 1, 2, 2, 2), order(2, 0, 1, 2, 2, 2), order(3, 0, 1, 2, 2, 2)
	type proofs []api.PathProof
	lists := func(l ...api.PathProof) proofs { return l }
	at := func(p api.PathProof, at int) api.PathProof { p.At = at; return p }
	to := func(p api.PathProof, to ...int) api.PathProof { p.To = to; return p }
	for i, c := range []struct {
		o         api.Order
		a, b      api.Term
		good, bad proofs
	}{
		{left, x, x, nil, lists(pair, sub(0), place(), lex(0), multi())}, {left, x, y, nil, lists(pair, sub(0), lex(0), multi())}, {bags, x, x, nil, lists(pair, sub(0), lex(0), multi())}, {left, x, a, nil, lists(pair, sub(0), place(), lex(0))}, {left, a, x, nil, lists(pair, sub(0), place(), lex(0))}, {left, a, a, nil, lists(pair, sub(0), place(), lex(0), multi())}, {bags, a, a, nil, lists(pair, multi())}, {left, a, b, nil, lists(pair, place(), sub(0), lex(0))},
		{left, f(x), x, lists(sub(0)), lists(pair, sub(1), sub(-1), sub(0, pair), sub(0, sub(0)), to(sub(0), 0), api.PathProof{Rule: 5}, api.PathProof{Rule: -1}, api.PathProof{Rule: 1 << 62}, api.PathProof{L: lists(sub(0))}, place(), place(sub(0)))},
		{left, h(f(x), x), x, lists(sub(1), sub(0, sub(0))), lists(sub(0), sub(1, sub(0)), sub(0, sub(0), sub(0)), sub(0, sub(1)), sub(0, pair), sub(2), sub(1<<62))},
		{left, f(f(x)), f(y), nil, lists(sub(0), sub(0, sub(0)), lex(0, sub(0), sub(0)))},
		{left, b, a, lists(place()), lists(at(place(), 1), to(place(), 0), place(sub(0)), place(pair), lex(0), sub(0))},
		{left, h(x, y), f(y), lists(place(sub(1))), lists(place(), place(sub(0)), place(sub(1), sub(1)), at(place(sub(1)), -1), to(place(sub(1)), 1), lex(0, sub(1)), multi(1, sub(1)))},
		{left, m(x, y, a), h(y, x), lists(place(sub(1), sub(0))), lists(place(sub(0), sub(1)), place(sub(1)), place(sub(1), sub(0), sub(0)))},
		{left, f(x), h(x, x), nil, lists(place(sub(0), sub(0)), lex(0, sub(0), sub(0)), lex(1, sub(0), sub(0)))}, {level, h(x, x), m(x, x, x), nil, lists(lex(2, sub(0), sub(0), sub(0)), place(sub(0), sub(0), sub(0)))},
		{left, h(x, f(y)), h(x, y), lists(lex(1, sub(0), sub(0), sub(1, sub(0)))), lists(lex(0, sub(0), sub(0), sub(1, sub(0))), lex(2, sub(0), sub(1, sub(0))), lex(1, sub(0), sub(1, sub(0))), lex(1, sub(0), sub(0)), lex(1), lex(1, sub(0), sub(0), sub(1, sub(0)), sub(0)), lex(1, sub(1, sub(0)), sub(0), sub(0)), lex(-1, sub(0), sub(0), sub(1, sub(0))), to(lex(1, sub(0), sub(0), sub(1, sub(0))), 0), multi(0, 1, pair, sub(0)), place(sub(0), sub(1, sub(0))))},
		{right, h(x, f(y)), h(f(x), y), lists(lex(0, sub(0), place(sub(0)), sub(1, sub(0)))), lists(lex(1, sub(0), place(sub(0)), sub(1, sub(0))), lex(0, sub(0), sub(1, sub(0)), place(sub(0))))},
		{left, h(x, f(y)), h(f(x), y), nil, lists(lex(0, sub(0), place(sub(0)), sub(1, sub(0))), lex(1, sub(0), place(sub(0)), sub(1, sub(0))))},
		{left, m(f(x), y, a), m(x, b, y), lists(lex(0, sub(0), sub(0, sub(0)), place(), sub(1))), lists(lex(0, sub(0), sub(0, sub(0)), sub(1), place()), lex(0, sub(0)))},
		{right, m(a, y, f(x)), m(b, f(y), x), lists(lex(0, sub(0), place(), place(sub(1)), sub(2, sub(0)))), lists(lex(2, sub(0), place(), place(sub(1)), sub(2, sub(0))))},
		{level, h(x, y), f(x), lists(lex(1, sub(0))), lists(lex(0, sub(0)), lex(1), lex(1, sub(0), sub(0)), lex(2, sub(0)), lex(1, sub(1)), place(sub(0)))}, {levelRight, h(x, y), f(y), lists(lex(1, sub(1))), lists(lex(1, sub(0)), lex(0, sub(1)))}, {level, h(x, y), f(y), nil, lists(lex(1, sub(1)), lex(0, sub(1)))},
		{level, f(f(x)), h(x, x), lists(lex(0, sub(0), sub(0, sub(0)), sub(0, sub(0)))), lists(lex(0, sub(0, sub(0)), sub(0, sub(0))), lex(0, sub(0), sub(0, sub(0))))},
		{bags, h(f(x), y), h(y, x), lists(multi(1, 0, pair, sub(0))), lists(multi(0, 1, pair, sub(0)), multi(1, 0, sub(0), pair), multi(1, 0, sub(0), sub(0)), multi(1, 0, pair, pair), multi(1, 0, pair), multi(1, pair, sub(0)), multi(1, 0), multi(1, 0, 0, pair, sub(0)), multi(1, 0, 0, pair, sub(0), pair), multi(1, -1, pair, sub(0)), multi(1, 2, pair, sub(0)), at(multi(1, 0, pair, sub(0)), 1), multi(1, 0, api.PathProof{At: 1}, sub(0)), multi(1, 0, to(pair, 0), sub(0)), multi(1, 0, api.PathProof{L: lists(pair)}, sub(0)), lex(0, sub(0), sub(1), sub(0, sub(0))))},
		{bags, h(f(x), f(x)), h(f(x), x), lists(multi(0, 1, pair, sub(0)), multi(1, 0, pair, sub(0))), lists(multi(0, 0, pair, sub(0)), multi(1, 1, pair, sub(0)), multi(0, 1, sub(0), sub(0)))},
		{bags, h(f(x), f(x)), h(x, x), lists(multi(0, 0, sub(0), sub(0)), multi(0, 1, sub(0), sub(0)), multi(1, 0, sub(0), sub(0)), multi(1, 1, sub(0), sub(0))), lists(multi(0, 1, sub(0), pair))}, {bags, h(x, f(x)), h(x, x), lists(multi(1, 1, sub(0), sub(0)), multi(0, 1, pair, sub(0)), multi(1, 0, sub(0), pair)), lists(multi(0, 0, pair, pair), multi(1, 1, pair, sub(0)), multi(0, 0, pair, sub(0)))},
		{bags, m(x, y, y), m(y, x, y), nil, lists(multi(1, 0, 2, pair, pair, pair), multi(1, 0, 1, pair, pair, pair), multi())}, {bags, m(x, y, y), m(y, x, x), nil, lists(multi(1, 0, 0, pair, pair, pair))},
		{levelBags, f(x), a, lists(place()), lists(multi(), lex(0))}, {order(3, 0, 0, 0, 0, 0), f(x), a, lists(multi()), lists(place(), lex(0), multi(0), multi(pair), multi(0, pair))}, {order(3, 0, 0, 0, 0, 0), a, b, nil, lists(multi(), place(), lex(0))}, {order(1, 0, 0, 0, 0, 0), f(x), a, lists(lex(0)), lists(multi(), place(), lex(0, pair), lex(1))}, {order(1, 0, 0, 0, 0, 0), a, b, nil, lists(lex(0), place())}, {levelBags, m(x, x, y), h(x, x), lists(multi(0, 1, pair, pair), multi(1, 0, pair, pair)), lists(multi(0, 0, pair, pair), multi(0, 2, pair, pair))}, {levelBags, h(x, x), h(x, x), nil, lists(multi(0, 1, pair, pair), multi(0, 0, pair, pair))},
		// What is equal but not the same.
		{mixed(0, 0, 2, 3, 4, 1, 1, 1, 3, 1), f(h(a, y)), h(y, b), lists(sub(0)), lists(sub(0, pair), sub(0, sub(0)))}, {mixed(0, 0, 2, 3, 4, 1, 1, 1, 3, 1), m(h(x, y), b, f(x)), m(h(y, x), a, x), lists(lex(2, sub(0), sub(0), sub(1), sub(2, sub(0)))), lists(lex(0, sub(0), sub(0), sub(1), sub(2, sub(0))), lex(1, sub(0), sub(0), sub(1), sub(2, sub(0))))}, {mixed(0, 0, 2, 3, 4, 1, 1, 1, 3, 1), h(f(a), f(x)), h(x, f(b)), lists(multi(1, 0, sub(0), pair)), lists(multi(1, 1, sub(0), pair))},
	} {
		w := words{c.o}
		for j, p := range c.good {
			if err := paths.Verify(s, c.o, c.a, c.b, p); err != api.OK || !w.isProof(p, c.a, c.b) {
				t.Errorf("%d: %d is a proof that %v is greater than %v: error %d", i, j, c.a, c.b, err)
			}
		}
		for j, p := range c.bad {
			if err := paths.Verify(s, c.o, c.a, c.b, p); err != api.ErrProof || w.isProof(p, c.a, c.b) {
				t.Errorf("%d: %d is no proof that %v is greater than %v: error %d", i, j, c.a, c.b, err)
			}
		}
		if is := greater(t, s, c.o, c.a, c.b); is != (len(c.good) > 0) {
			t.Errorf("%d: %v and %v: greater %v", i, c.a, c.b, is)
		}
	}
}

// P6.2, P6.6: proofs that Prove finds, any other proofs, and such with small flaws, against the chapter's words.
func TestProofsByWords(t *testing.T) {
	found, accepted, refused, rules := 0, 0, 0, map[int]int{}
	for seed := range int64(50) {
		g := newMaker(seed + 100)
		s := some()
		o := g.order(s)
		w := words{o}
		for range 80 {
			a, b := g.pair(s, g.r.Intn(4))
			p, is := prove(t, s, o, a, b)
			if want := w.greater(a, b); is != want || is != greater(t, s, o, a, b) {
				t.Fatalf("by %v, Prove(%v, %v): %v; want %v", o, a, b, is, want)
			}
			l := []api.PathProof{p}
			if is {
				found++
				rules[p.Rule]++
				if !w.isProof(p, a, b) {
					t.Fatalf("by %v, Prove(%v, %v): %v", o, a, b, p)
				}
				l = append(l, g.proof(w, a, b), g.proof(w, a, b))
			}
			for _, x := range l {
				for range 5 {
					want := api.ErrProof
					if w.isProof(x, a, b) {
						want = api.OK
						accepted++
					} else {
						refused++
					}
					if err := paths.Verify(s, o, a, b, x); err != want {
						t.Fatalf("by %v, Verify(%v, %v, %v): error %d; want %d", o, a, b, x, err, want)
					}
					if err := paths.Verify(s, o, b, a, x); err == api.OK && !w.isProof(x, b, a) {
						t.Fatalf("by %v, Verify(%v, %v, %v): error %d", o, b, a, x, err)
					}
					x = g.flawed(x)
				}
			}
		}
	}
	if found < 800 || accepted < 4000 || refused < 4000 || rules[api.PathSub] < 50 || rules[api.PathPlace] < 50 || rules[api.PathLex] < 50 || rules[api.PathMulti] < 20 {
		t.Errorf("%d proofs were found (by rules %v), %d accepted, %d refused", found, rules, accepted, refused)
	}
}

// P6.2, P6.6: deep and broad proofs.
func TestGreatProofs(t *testing.T) {
	s := signature(o("z", 0), o("s", 1), o("f", 2), o("n", 8))
	many := func(last api.Term) api.Term {
		return op(3, v(1), v(2), v(3), v(4), v(5), v(6), v(7), last)
	}
	for i, c := range []struct {
		o    api.Order
		a, b api.Term
	}{
		{order(1, 0, 1, 2, 3), times(1, 199, v(0)), v(0)}, {order(1, 0, 1, 2, 3), times(1, 199, v(0)), times(1, 198, v(0))}, {order(3, 0, 1, 2, 3), times(1, 199, v(0)), times(1, 190, v(0))}, {order(1, 0, 1, 2, 3), op(2, v(0), v(0)), times(1, 199, v(0))}, {order(2, 0, 1, 1, 3), op(2, v(0), times(1, 120, op(0))), times(1, 120, op(0))},
		{order(1, 0, 1, 2, 3), broad(2, 10, 1, op(1, v(0))), broad(2, 10, 1, v(0))}, {order(2, 0, 1, 2, 3), broad(2, 10, 1, op(1, v(0))), broad(2, 10, 1, v(0))}, {order(3, 0, 1, 2, 3), broad(2, 60, 1, op(1, v(0))), broad(2, 60, 1, v(0))}, {order(3, 0, 1, 2, 3), many(many(many(op(1, v(0))))), many(many(many(v(0))))}, {order(1, 0, 1, 2, 3), many(many(many(op(1, v(0))))), many(many(many(v(0))))},
		{order(3, 0, 1, 2, 3), op(3, v(0), op(1, v(0)), v(1), op(1, v(1)), v(2), op(1, v(2)), v(3), op(1, v(3))), op(3, v(3), v(3), v(2), v(2), v(1), v(1), v(0), v(0))}, {order(1, 0, 1, 2, 3), bush(3, 1, 60), bush(2, 1, 1)}, {order(3, 0, 1, 2, 3), op(3, op(0), op(0), op(0), op(0), op(0), op(0), op(0), op(0)), op(1, op(0))},
	} {
		p, is := prove(t, s, c.o, c.a, c.b)
		if err := paths.Verify(s, c.o, c.a, c.b, p); !is || err != api.OK {
			t.Errorf("%d: Prove: %v, Verify: error %d", i, is, err)
		}
		if err := paths.Verify(s, c.o, c.b, c.a, p); err != api.ErrProof {
			t.Errorf("%d: Verify, the other way round: error %d", i, err)
		}
	}
}

// P6.2: arguments stay as they are, and proofs are memory of their own.
func TestProofMemory(t *testing.T) {
	for seed := range int64(40) {
		g := newMaker(seed + 200)
		s := some()
		o := g.order(s)
		for range 20 {
			a, b := g.pair(s, 3)
			untouched(t, "Prove", func() []any {
				p, _, _ := paths.Prove(s, o, a, b)
				return []any{p}
			}, s, o, a, b)
			p, _ := prove(t, s, o, a, b)
			untouched(t, "Verify", func() []any {
				paths.Verify(s, o, a, b, p)
				return nil
			}, s, o, a, b, p)
			untouched(t, "Greater", func() []any {
				paths.Greater(s, o, a, b)
				paths.Equal(s, o, a, b)
				return nil
			}, s, o, a, b)
		}
	}
}
