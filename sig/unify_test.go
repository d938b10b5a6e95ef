package sig_test

import (
	"math/rand"
	"testing"

	"madrigal/api"
	"madrigal/sig"
)

// P4.4: the unifier that the chapter's way finds.
func TestUnify(t *testing.T) {
	for _, x := range []struct {
		a, b api.Term
		want []api.Term
	}{
		{plus(v(0), succ(v(0))), plus(succ(v(1)), v(2)), []api.Term{succ(v(1)), v(1), succ(succ(v(1)))}}, {v(1), v(0), []api.Term{v(0), v(0)}}, {v(0), v(1), []api.Term{v(0), v(0)}}, {zero(), zero(), nil}, {v(2), v(2), []api.Term{v(0), v(1), v(2)}}, {v(1), zero(), []api.Term{v(0), zero()}}, {zero(), v(1), []api.Term{v(0), zero()}},
		{plus(v(2), v(1)), plus(v(1), v(0)), []api.Term{v(0), v(0), v(0)}}, {plus(v(0), v(1)), plus(v(1), v(2)), []api.Term{v(0), v(0), v(0)}}, {plus(v(0), v(2)), plus(v(2), zero()), []api.Term{zero(), v(1), zero()}}, {plus(v(0), v(0)), plus(v(1), succ(v(2))), []api.Term{succ(v(2)), succ(v(2)), v(2)}},
		{op(5, v(3), v(2), v(1)), op(5, v(2), v(1), v(0)), []api.Term{v(0), v(0), v(0), v(0)}}, {op(5, v(0), v(1), v(2)), op(5, plus(v(1), v(1)), plus(v(2), v(2)), succ(v(3))), []api.Term{plus(plus(succ(v(3)), succ(v(3))), plus(succ(v(3)), succ(v(3)))), plus(succ(v(3)), succ(v(3))), succ(v(3)), v(3)}},
		{plus(v(0), v(1)), plus(v(1), v(0)), []api.Term{v(0), v(0)}}, {op(5, v(0), v(1), v(0)), op(5, succ(v(2)), succ(v(3)), v(1)), []api.Term{succ(v(2)), succ(v(2)), v(2), v(2)}}, {v(0), bush(2000), []api.Term{bush(2000)}}, {op(4), op(4), nil},
	} {
		if l, is, err := sig.Unify(x.a, x.b); !is || err != api.OK || !equals(l, x.want) {
			t.Errorf("Unify(%v, %v): %v, %v, error %d; want %v", x.a, x.b, l, is, err, x.want)
		}
	}
	if l, is, err := sig.Unify(v(4000), succ(v(3))); !is || err != api.OK || len(l) != 4001 || !equal(l[4000], succ(v(3))) || !equal(l[3999], v(3999)) || !equal(l[0], v(0)) {
		t.Errorf("Unify of the variable 4000: %d elements, %v, error %d", len(l), is, err)
	}
	if l, is, err := sig.Unify(zero(), plus(v(4000), zero())); is || err != api.OK || len(l) != 0 {
		t.Errorf("Unify of the variable 4000: %d elements, %v, error %d", len(l), is, err)
	}
	for _, x := range [][2]api.Term{
		{v(0), succ(v(0))}, {succ(v(0)), v(0)}, {zero(), succ(zero())}, {op(1), op(2)}, {op(1), op(1, zero())}, {op(1, zero()), op(1)}, {op(1, v(0), v(1)), op(1, v(0))}, {plus(v(0), v(1)), plus(succ(v(1)), succ(v(0)))}, {plus(v(0), v(0)), plus(zero(), succ(zero()))}, {plus(v(0), v(0)), plus(v(1), succ(v(1)))},
		{op(5, v(0), v(1), v(2)), op(5, succ(v(1)), succ(v(2)), succ(v(0)))}, {op(5, v(0), v(1), v(0)), op(5, v(1), v(2), succ(v(2)))}, {op(5, v(3), v(2), v(2)), op(5, succ(v(1)), plus(zero(), v(3)), v(1))}, {plus(zero(), v(0)), plus(succ(v(0)), v(0))}, {plus(v(0), zero()), plus(v(0), succ(v(0)))},
	} {
		if l, is, err := sig.Unify(x[0], x[1]); is || err != api.OK || len(l) != 0 {
			t.Errorf("Unify(%v, %v): %v, %v, error %d", x[0], x[1], l, is, err)
		}
	}
}

// slow unifies in the chapter's words, but puts everything that is found into everything at once.
type slow struct {
	l     []api.Term
	pairs int
}

func (s *slow) unify(a, b api.Term) bool {
	s.pairs++
	if a.Kind == api.KVar {
		a = s.l[a.N]
	}
	if b.Kind == api.KVar {
		b = s.l[b.N]
	}
	if a.Kind == api.KVar && b.Kind == api.KVar && a.N == b.N {
		return true
	}
	if a.Kind == api.KVar && (b.Kind != api.KVar || a.N > b.N) {
		return s.put(a.N, with(b, s.l))
	}
	if b.Kind == api.KVar {
		return s.put(b.N, with(a, s.l))
	}
	if a.N != b.N || len(a.L) != len(b.L) {
		return false
	}
	for i := range a.L {
		if !s.unify(a.L[i], b.L[i]) {
			return false
		}
	}
	return true
}

func (s *slow) put(n int, t api.Term) bool {
	for _, m := range occurring(t) {
		if m == n {
			return false
		}
	}
	for i := range s.l {
		one := identity(len(s.l))
		one[n] = t
		s.l[i] = with(s.l[i], one)
	}
	return true
}

func identity(many int) []api.Term {
	var l []api.Term
	for n := range many {
		l = append(l, v(n))
	}
	return l
}

// P4.4: the unifier is the one that is found in the chapter's words.
func TestUnifyAgainstWords(t *testing.T) {
	r := rand.New(rand.NewSource(12))
	found := 0
	for range 30000 {
		a, b := tree(r, 4, 5), tree(r, 4, 5)
		if r.Intn(2) == 0 {
			a, b = alike(r, trees(r, 5, 2, 3))
		}
		s := slow{l: identity(last(a, b) + 1)}
		want := s.unify(a, b)
		l, is, err := sig.Unify(a, b)
		if err != api.OK || is != want || is && !equals(l, s.l) || !is && len(l) != 0 {
			t.Errorf("Unify(%v, %v): %v, %v, error %d; want %v, %v", a, b, l, is, err, s.l, want)
		}
		if is {
			found++
		}
	}
	if found < 10000 || found > 25000 {
		t.Errorf("%d of 30000 had a unifier", found)
	}
}

// alike returns two trees that a substitution makes equal: each is a random tree where some of what the substitution puts in is still the variable.
func alike(r *rand.Rand, l []api.Term) (api.Term, api.Term) {
	var grow func(levels int) api.Term
	grow = func(levels int) api.Term {
		if levels <= 1 || r.Intn(3) == 0 {
			return copied(l[r.Intn(len(l))])
		}
		t := op(r.Intn(4))
		for range r.Intn(4) {
			t.L = append(t.L, grow(levels-1))
		}
		return t
	}
	var folded func(t api.Term) api.Term
	folded = func(t api.Term) api.Term {
		for _, n := range r.Perm(len(l)) {
			if r.Intn(3) > 0 && equal(l[n], t) {
				return v(n)
			}
		}
		if t.Kind == api.KVar {
			return t
		}
		out := op(t.N)
		for _, x := range t.L {
			out.L = append(out.L, folded(x))
		}
		return out
	}
	t := grow(4)
	return folded(t), folded(t)
}

// P4.5: what makes two trees equal is the unifier, followed by itself.
func TestMostGeneral(t *testing.T) {
	r := rand.New(rand.NewSource(13))
	for range 20000 {
		// Variables of the substitution's elements are none of those it is for, but for those that stay.
		l := append(identity(3), trees(r, 4, 2, 3)...)
		a, b := alike(r, l)
		if !equal(with(a, l), with(b, l)) {
			t.Fatalf("%v with %v is not %v with it", a, l, b)
		}
		unifier, is, err := sig.Unify(a, b)
		if !is || err != api.OK {
			t.Errorf("Unify(%v, %v): %v, error %d; but there is %v", a, b, is, err, l)
			continue
		}
		if x, y := with(a, unifier), with(b, unifier); !equal(x, y) {
			t.Errorf("Unify(%v, %v): %v, which gives %v and %v", a, b, unifier, x, y)
		}
		for n, x := range unifier {
			if !equal(with(x, l), l[n]) {
				t.Errorf("Unify(%v, %v): %v; but with %v behind it the variable %d is another one", a, b, unifier, l, n)
			}
		}
	}
}

// small returns all terms of operations without and with one and two elements, up to a depth.
func small(levels int) []api.Term {
	l := []api.Term{zero()}
	if levels == 1 {
		return l
	}
	below := small(levels - 1)
	for _, x := range below {
		l = append(l, succ(x))
		for _, y := range below {
			l = append(l, plus(x, y))
		}
	}
	return l
}

// P4.5: where there is no unifier, no terms make two trees equal; where there is one, it makes them equal. All small terms are put into all small trees with two variables.
func TestNoUnifier(t *testing.T) {
	values := small(3)
	patterns := []api.Term{v(0), v(1), zero()}
	for _, x := range []api.Term{v(0), v(1), zero()} {
		patterns = append(patterns, succ(x), succ(succ(x)))
		for _, y := range []api.Term{v(0), v(1), zero(), succ(v(0)), plus(v(1), v(0))} {
			patterns = append(patterns, plus(x, y), plus(y, x))
		}
	}
	for _, a := range patterns {
		for _, b := range patterns {
			l, is, err := sig.Unify(a, b)
			if err != api.OK || is && !equal(with(a, l), with(b, l)) {
				t.Errorf("Unify(%v, %v): %v, %v, error %d", a, b, l, is, err)
			}
			for _, x := range values {
				for _, y := range values {
					if values := []api.Term{x, y}; !is && equal(with(a, values), with(b, values)) {
						t.Fatalf("Unify(%v, %v): none; but there is %v", a, b, values)
					}
				}
			}
		}
	}
}

// P4.13: a unifier put into itself changes nothing; that of a tree and itself is every variable by itself.
func TestIdempotent(t *testing.T) {
	r := rand.New(rand.NewSource(14))
	for range 10000 {
		a, b := alike(r, trees(r, 6, 2, 3))
		l, is, err := sig.Unify(a, b)
		for n, x := range l {
			if y, wrong := sig.Subst(x, l); wrong != api.OK || !equal(x, y) {
				t.Errorf("Unify(%v, %v): %v, %v, error %d; in itself, the variable %d is %v", a, b, l, is, err, n, y)
			}
		}
		if own, is, err := sig.Unify(a, a); !is || err != api.OK || !equals(own, identity(last(a)+1)) {
			t.Errorf("Unify(%v) by itself: %v, %v, error %d", a, own, is, err)
		}
	}
}

// leaves is a tree of 585 nodes, of which 512 are t.
func leaves(t api.Term) api.Term {
	for range 3 {
		t = op(8, t, t, t, t, t, t, t, t)
	}
	return t
}

// P4.4: how many pairs are looked at. Each of 512 pairs of variables that became trees of 38 nodes is looked at with all that is in these, which with the rest is 19532 pairs.
func TestUnifyPairs(t *testing.T) {
	pairs := func(more ...api.Term) (api.Term, api.Term) {
		a, b := op(9, v(0), v(1), leaves(v(0))), op(9, bush(38), bush(38), leaves(v(1)))
		return op(9, append(a.L, more...)...), op(9, append(b.L, more...)...)
	}
	a, b := pairs(bush(200), bush(268))
	s := slow{l: identity(2)}
	if !s.unify(a, b) || s.pairs != api.MaxUnify {
		t.Fatalf("%d pairs", s.pairs)
	}
	if l, is, err := sig.Unify(a, b); !is || err != api.OK || !equals(l, s.l) {
		t.Errorf("Unify with %d pairs: %v, error %d", s.pairs, is, err)
	}
	a, b = pairs(bush(200), bush(269))
	if l, is, err := sig.Unify(a, b); is || err != api.ErrLimit || len(l) != 0 {
		t.Errorf("Unify with one pair more: %v, error %d", is, err)
	}
	// The pair that differs is the last one that is looked at, or it is one behind it.
	a, b = pairs(bush(200), bush(267))
	a.L, b.L = append(a.L, zero()), append(b.L, succ(zero()))
	if l, is, err := sig.Unify(a, b); is || err != api.OK || len(l) != 0 {
		t.Errorf("Unify with a last pair that differs: %v, error %d", is, err)
	}
	a, b = pairs(bush(200), bush(268))
	a.L, b.L = append(a.L, zero()), append(b.L, succ(zero()))
	if l, is, err := sig.Unify(a, b); is || err != api.ErrLimit || len(l) != 0 {
		t.Errorf("Unify with a pair that differs behind the last one: %v, error %d", is, err)
	}
}

// squared returns two trees by whose unifier each of so many variables becomes two of the next one.
func squared(many int) (api.Term, api.Term) {
	a, b := zero(), zero()
	for i := range many {
		a, b = plus(a, v(i)), plus(b, plus(v(i+1), v(i+1)))
	}
	return a, b
}

// P4.4: elements that are too great, and elements that are just not so.
func TestUnifyLimits(t *testing.T) {
	for i, x := range []struct {
		a, b api.Term
		want api.Errno
	}{
		{plus(v(0), v(1)), plus(plus(v(1), v(1)), bush(999)), api.OK}, {plus(v(0), v(1)), plus(plus(v(1), v(1)), bush(1000)), api.ErrLimit}, {plus(v(0), v(1)), plus(op(5, v(1), zero(), v(1)), bush(999)), api.OK}, {plus(v(0), v(1)), plus(op(5, v(1), succ(zero()), v(1)), bush(999)), api.ErrLimit},
		{plus(v(1), v(0)), plus(plus(v(0), v(0)), bush(999)), api.OK}, {plus(v(1), v(0)), plus(plus(v(0), v(0)), bush(1000)), api.ErrLimit}, {v(0), bush(2000), api.OK}, {chain(200, v(1)), chain(200, v(0)), api.OK},
		{plus(v(0), v(1)), plus(chain(101, v(1)), chain(100, zero())), api.OK}, {plus(v(0), v(1)), plus(chain(101, v(1)), chain(101, zero())), api.ErrLimit}, {plus(v(1), v(0)), plus(chain(101, v(0)), chain(100, v(2))), api.OK}, {plus(v(1), v(0)), plus(chain(101, v(0)), chain(101, v(2))), api.ErrLimit},
	} {
		l, is, err := sig.Unify(x.a, x.b)
		if err != x.want || is != (err == api.OK) || is && !equal(with(x.a, l), with(x.b, l)) || !is && len(l) != 0 {
			t.Errorf("Unify %d: %v, error %d; want %d", i, is, err, x.want)
		}
	}
}

// P4.4: what variables become can be far too great to be looked at node by node.
func TestUnifySquared(t *testing.T) {
	a, b := squared(9)
	if l, is, err := sig.Unify(a, b); !is || err != api.OK || len(l) != 10 || len(flat(l[0])) != 3*1023 {
		t.Errorf("Unify: %d elements, %v, error %d", len(l), is, err)
	}
	for _, many := range []int{10, 11, 60, 150} {
		a, b = squared(many)
		if l, is, err := sig.Unify(a, b); is || err != api.ErrLimit || len(l) != 0 {
			t.Errorf("Unify of %d variables: %d elements, %v, error %d", many, len(l), is, err)
		}
		// What differs, or is within itself, tells that there is none, however great the rest would be.
		if l, is, err := sig.Unify(plus(a, zero()), plus(b, succ(zero()))); is || err != api.OK || len(l) != 0 {
			t.Errorf("Unify of %d variables, and what differs: %d elements, %v, error %d", many, len(l), is, err)
		}
		if l, is, err := sig.Unify(plus(a, v(many)), plus(b, succ(v(0)))); is || err != api.OK || len(l) != 0 {
			t.Errorf("Unify of %d variables within themselves: %d elements, %v, error %d", many, len(l), is, err)
		}
		// That a variable is not within the first one takes no longer to see, though each one is there twice as often as the one ahead.
		if l, is, err := sig.Unify(op(5, a, v(many+1), zero()), op(5, b, succ(v(0)), succ(zero()))); is || err != api.OK || len(l) != 0 {
			t.Errorf("Unify of %d variables, one behind them, and what differs: %d elements, %v, error %d", many, len(l), is, err)
		}
	}
}
