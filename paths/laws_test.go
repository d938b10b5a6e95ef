package paths_test

import (
	"slices"
	"testing"

	"madrigal/api"
	"madrigal/paths"
	"madrigal/sig"
)

// each calls check with orders of a signature that were made by chance.
func each(s api.Sig, from int64, check func(g maker, o api.Order)) {
	for seed := range int64(40) {
		g := newMaker(seed + from)
		check(g, g.order(s))
	}
}

// below returns a term that is less than another one and like it, false if it comes upon none.
func (g maker) below(t *testing.T, s api.Sig, o api.Order, x api.Term) (api.Term, bool) {
	t.Helper()
	for range 12 {
		y := g.near(s, x)
		if nodes, _ := sig.Size(y); nodes < 300 && greater(t, s, o, x, y) {
			return y, true
		}
	}
	return api.Term{}, false
}

// P6.5: no term is greater than itself; what is less than what is less, is less; all terms within a term are less.
func TestOrder(t *testing.T) {
	s, chains := some(), 0
	each(s, 1000, func(g maker, o api.Order) {
		for range 60 {
			a := g.any(s, 4, 3)
			if greater(t, s, o, a, a) {
				t.Fatalf("by %v, %v is greater than itself", o, a)
			}
			for _, x := range parts(a)[1:] {
				if !greater(t, s, o, a, x) || greater(t, s, o, x, a) {
					t.Fatalf("by %v, %v is not greater than %v", o, a, x)
				}
			}
			b, isLess := g.below(t, s, o, a)
			if !isLess {
				continue
			}
			if greater(t, s, o, b, a) {
				t.Fatalf("by %v, %v and %v are greater than each other", o, a, b)
			}
			if c, isLess := g.below(t, s, o, b); isLess {
				chains++
				if !greater(t, s, o, a, c) {
					t.Fatalf("by %v, %v, %v and %v are no chain", o, a, b, c)
				}
			}
		}
	})
	if chains < 500 {
		t.Errorf("%d chains", chains)
	}
}

// P6.5: with any terms in the place of variables, and as a part of any other term.
func TestInstances(t *testing.T) {
	s, found := some(), 0
	each(s, 1100, func(g maker, o api.Order) {
		for range 80 {
			a, b := g.pair(s, 3)
			if !greater(t, s, o, a, b) {
				continue
			}
			found++
			l := []api.Term{g.any(s, 3, 4), g.any(s, 2, 4), g.any(s, 3, 4)}
			x, y := with(a, l), with(b, l)
			if !greater(t, s, o, x, y) {
				t.Fatalf("by %v, %v is not greater than %v, though %v is greater than %v", o, x, y, a, b)
			}
			around := g.any(s, 4, 3)
			places, _ := sig.Paths(around)
			at := pick(g, places)
			x, _ = sig.Put(around, at, a)
			y, _ = sig.Put(around, at, b)
			if !greater(t, s, o, x, y) {
				t.Fatalf("by %v, %v is not greater than %v, though %v is greater than %v", o, x, y, a, b)
			}
		}
	})
	if found < 500 {
		t.Errorf("%d pairs", found)
	}
}

// decreasing returns types and orders by which their equations decrease.
func decreasing() ([]api.Type, []api.Order) {
	n := nat()
	n.Sig.Ops = append(n.Sig.Ops, o("mul", 2))
	mul := func(x, y api.Term) api.Term { return op(3, x, y) }
	n.Eqns = append(n.Eqns, eq(1, mul(v(0), zero()), zero()), eq(2, mul(v(0), succ(v(1))), add(mul(v(0), v(1)), v(0))), eq(3, add(add(v(0), v(1)), v(2)), add(v(0), add(v(1), v(2)))))
	swaps := data(signature(o("z", 0), o("s", 1), o("f", 2)), eq(2, op(2, succ(v(0)), v(1)), op(2, v(1), v(0))), eq(2, op(2, v(0), succ(succ(v(1)))), op(2, succ(v(1)), v(0))), eq(1, op(2, v(0), v(0)), v(0), succ(v(0)), v(0)))
	l, orders := []api.Type{n, swaps}, []api.Order{order(1, 0, 1, 2, 3), order(3, 0, 1, 2)}
	for seed := range int64(250) {
		g := newMaker(seed + 1200)
		x := g.equations(1+g.r.Intn(3), 3)
		if o, is := first(x); is {
			l, orders = append(l, x), append(orders, o)
		}
	}
	return l, orders
}

// P6.5, P6.13: by equations that decrease each step leads to a lesser term, so that no term comes twice.
func TestSteps(t *testing.T) {
	steps := 0
	types, orders := decreasing()
	for i, x := range types {
		o := orders[i]
		if err := paths.Check(x, o); err != api.OK {
			t.Fatalf("Check(%v, %v): error %d", x.Eqns, o, err)
		}
		g := newMaker(int64(i))
		for range 40 {
			chain := []api.Term{g.term(x.Sig, occurring(x), 6, 2)}
			for range 15 {
				next, is := g.step(x, chain[len(chain)-1])
				if !is {
					break
				}
				steps++
				for _, y := range chain {
					if !greater(t, x.Sig, o, y, next) || equal(t, x.Sig, o, y, next) {
						t.Fatalf("by %v, a step of %v leads from %v, not to a lesser one: %v", o, x.Eqns, chain, next)
					}
				}
				chain = append(chain, next)
			}
		}
	}
	if steps < 2000 {
		t.Errorf("%d steps", steps)
	}
}

// step returns a term to which some equation leads at some place, conditions aside.
func (g maker) step(x api.Type, t api.Term) (api.Term, bool) {
	places, _ := sig.Paths(t)
	for _, i := range g.r.Perm(len(places)) {
		at, _ := sig.At(t, places[i])
		for _, n := range g.r.Perm(len(x.Eqns)) {
			l, is, err := sig.Match(x.Eqns[n].A, at)
			if !is || err != api.OK {
				continue
			}
			for k := range l { // what does not occur can be anything
				if l[k].Kind == 0 {
					l[k] = v(0)
				}
			}
			right, err := sig.Subst(x.Eqns[n].B, l)
			if err != api.OK {
				continue
			}
			next, err := sig.Put(t, places[i], right)
			if err == api.OK {
				return next, true
			}
		}
	}
	return api.Term{}, false
}

// like returns a term that is equal to another one by an order, and mostly not the same.
func (g maker) like(o api.Order, s api.Sig, t api.Term) api.Term {
	if t.Kind == api.KVar {
		return t
	}
	var l []int
	for n, x := range s.Ops {
		if o.Place[n] == o.Place[t.N] && len(x.Args) == len(t.L) {
			l = append(l, n)
		}
	}
	out := op(pick(g, l))
	for _, x := range t.L {
		out.L = append(out.L, g.like(o, s, x))
	}
	if o.Status[t.N] == api.ByMulti {
		g.r.Shuffle(len(out.L), func(i, j int) { out.L[i], out.L[j] = out.L[j], out.L[i] })
	}
	return out
}

// P6.7: Equal is an equivalence; equal terms are greater than the same ones, and less than the same ones.
func TestEqual(t *testing.T) {
	s, same, others := some(), 0, 0
	each(s, 1300, func(g maker, o api.Order) {
		for range 60 {
			a, b := g.pair(s, 3)
			x, y := g.like(o, s, a), g.like(o, s, a)
			if !equal(t, s, o, a, a) || !equal(t, s, o, a, x) || !equal(t, s, o, x, a) || !equal(t, s, o, x, y) {
				t.Fatalf("by %v, %v, %v and %v are not equal", o, a, x, y)
			}
			if greater(t, s, o, a, x) || greater(t, s, o, x, a) {
				t.Fatalf("by %v, %v and %v are greater, and equal", o, a, x)
			}
			eq := equal(t, s, o, a, b)
			if eq != equal(t, s, o, b, a) || eq != equal(t, s, o, x, b) || eq != equal(t, s, o, b, y) {
				t.Fatalf("by %v, %v and %v, or %v and %v: equal %v", o, a, b, x, y, eq)
			}
			if eq {
				same++
			}
			more, less := greater(t, s, o, a, b), greater(t, s, o, b, a)
			if more != greater(t, s, o, x, b) || less != greater(t, s, o, b, x) || more && less || (more || less) && eq {
				t.Fatalf("by %v, %v and %v, or %v: greater %v, less %v, equal %v", o, a, b, x, more, less, eq)
			}
			if more || less {
				others++
			}
		}
	})
	if same < 50 || others < 500 {
		t.Errorf("%d pairs were equal, %d not", same, others)
	}
}

// P6.8: of two ground terms one is greater, or both are equal.
func TestGround(t *testing.T) {
	s := some()
	met := [3]int{}
	each(s, 1400, func(g maker, o api.Order) {
		for range 100 {
			a, b := g.pair(s, 0)
			if g.once(2) {
				b = g.any(s, 5, 0)
			}
			holds := []bool{greater(t, s, o, a, b), greater(t, s, o, b, a), equal(t, s, o, a, b)}
			many := 0
			for i, is := range holds {
				if is {
					many++
					met[i]++
				}
			}
			if many != 1 {
				t.Fatalf("by %v, %v and %v: %v", o, a, b, holds)
			}
		}
	})
	if met[0] < 500 || met[1] < 500 || met[2] < 100 {
		t.Errorf("greater, less, equal: %v", met)
	}
}

// P6.11: places that are greater, but in the same order.
func TestPlaces(t *testing.T) {
	s := plain()
	each(s, 1500, func(g maker, o api.Order) {
		higher := copied(o)
		var l []int
		for _, n := range g.r.Perm(256)[:201] {
			l = append(l, n)
		}
		slices.Sort(l)
		for i, n := range o.Place {
			higher.Place[i] = l[n]
		}
		var terms []api.Term
		for range 30 {
			a, b := g.pair(s, 3)
			terms = append(terms, a, b)
			if greater(t, s, o, a, b) != greater(t, s, higher, a, b) || equal(t, s, o, a, b) != equal(t, s, higher, a, b) {
				t.Fatalf("by %v and %v, %v and %v are not the same", o, higher, a, b)
			}
			p, is := prove(t, s, o, a, b)
			if err := paths.Verify(s, higher, a, b, p); is != (err == api.OK) {
				t.Fatalf("by %v and %v, Verify(%v, %v, %v): error %d", o, higher, a, b, p, err)
			}
			x := g.equations(3, 3)
			k, is, err := paths.Blame(x, o)
			i, bad, wrong := paths.Blame(x, higher)
			if k != i || is != bad || err != wrong || paths.Check(x, o) != paths.Check(x, higher) {
				t.Fatalf("by %v and %v, of %v: %d, %d", o, higher, x.Eqns, k, i)
			}
		}
		one, err := paths.Sort(s, o, terms)
		other, wrong := paths.Sort(s, higher, terms)
		if err != api.OK || wrong != api.OK || !same(one, other) {
			t.Fatalf("by %v and %v, Sort of %v: %v and %v, errors %d, %d", o, higher, terms, one, other, err, wrong)
		}
	})
}

// P6.13: a chain has no term twice, and each term of it is greater than all behind it.
func TestChains(t *testing.T) {
	s, longest := some(), 0
	each(s, 1600, func(g maker, o api.Order) {
		chain := []api.Term{g.any(s, 6, 2)}
		for range 150 {
			x := chain[len(chain)-1]
			places, _ := sig.Paths(x)
			at := pick(g, places)
			within, _ := sig.At(x, at)
			next, _ := sig.Put(x, at, g.near(s, within))
			if greater(t, s, o, x, next) {
				chain = append(chain, next)
			}
		}
		longest = max(longest, len(chain))
		for i, a := range chain {
			for _, b := range chain[i+1:] {
				if same(a, b) || !greater(t, s, o, a, b) || greater(t, s, o, b, a) {
					t.Fatalf("by %v, %v and %v of a chain", o, a, b)
				}
			}
		}
	})
	if longest < 10 {
		t.Errorf("the longest chain has %d terms", longest)
	}
}
