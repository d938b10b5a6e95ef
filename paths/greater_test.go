package paths_test

import (
	"slices"
	"testing"

	"madrigal/api"
	"madrigal/paths"
)

// greater is Greater of what has to be terms.
func greater(t *testing.T, s api.Sig, o api.Order, a, b api.Term) bool {
	t.Helper()
	is, err := paths.Greater(s, o, a, b)
	if err != api.OK {
		t.Fatalf("Greater(%v, %v, %v): error %d", o, a, b, err)
	}
	return is
}

// equal is Equal of what has to be terms.
func equal(t *testing.T, s api.Sig, o api.Order, a, b api.Term) bool {
	t.Helper()
	is, err := paths.Equal(s, o, a, b)
	if err != api.OK {
		t.Fatalf("Equal(%v, %v, %v): error %d", o, a, b, err)
	}
	return is
}

// P6.1: the chapter's examples.
func TestExamples(t *testing.T) {
	s := nat().Sig
	left, multi := order(api.ByLeft, 0, 0, 1), mixed(0, 0, 1, api.ByLeft, api.ByLeft, api.ByMulti)
	x, y := v(0), v(1)
	for i, c := range []struct {
		o    api.Order
		a, b api.Term
		want bool
	}{
		{left, add(x, succ(y)), succ(add(x, y)), true}, {left, succ(add(x, y)), add(x, succ(y)), false},
		{left, succ(x), x, true}, {left, x, zero(), false}, {left, succ(zero()), zero(), true}, {multi, add(succ(x), y), add(y, x), true},
	} {
		if got := greater(t, s, c.o, c.a, c.b); got != c.want {
			t.Errorf("Greater %d: %v", i, got)
		}
	}
	if equal(t, s, left, add(x, y), add(y, x)) || !equal(t, s, multi, add(x, y), add(y, x)) {
		t.Error("Equal of add(x, y) and add(y, x)")
	}
}

// P6.1: operations with no, one, two, three and eight arguments, some of which have equal places.
func TestRules(t *testing.T) {
	s := signature(o("a", 0), o("b", 0), o("f", 1), o("g", 1), o("h", 2), o("k", 2), o("m", 3), o("n", 8))
	a, b, x, y := op(0), op(1), v(0), v(1)
	f := func(x api.Term) api.Term { return op(2, x) }
	g := func(x api.Term) api.Term { return op(3, x) }
	h := func(x, y api.Term) api.Term { return op(4, x, y) }
	k := func(x, y api.Term) api.Term { return op(5, x, y) }
	m := func(x, y, z api.Term) api.Term { return op(6, x, y, z) }
	many := func(first, others, last api.Term) api.Term {
		return op(7, first, others, others, others, others, others, others, last)
	}
	rising := func(status int) api.Order { return order(status, 0, 1, 2, 3, 4, 5, 6, 7) }
	level := func(status int) api.Order { return order(status, 7, 7, 7, 7, 7, 7, 7, 7) }
	const left, right, multi = api.ByLeft, api.ByRight, api.ByMulti
	for i, c := range []struct {
		o             api.Order
		a, b          api.Term
		greater, same bool
	}{
		// Variables.
		{rising(left), x, x, false, true}, {rising(left), x, y, false, false}, {rising(left), x, a, false, false}, {rising(left), a, x, false, false}, {rising(left), f(x), y, false, false}, {rising(left), f(f(x)), x, true, false}, {rising(left), h(y, f(x)), x, true, false}, {level(multi), f(x), x, true, false}, {level(left), x, f(x), false, false}, {rising(left), v(1 << 62), v(1 << 62), false, true}, {rising(left), f(v(1 << 62)), v(1 << 61), false, false},
		// An argument is equal, or greater.
		{rising(left), f(b), b, true, false}, {rising(left), f(b), a, true, false}, {rising(left), f(g(a)), g(a), true, false}, {rising(left), f(h(a, a)), g(b), true, false}, {level(left), f(g(a)), f(a), true, false}, {level(left), f(b), a, true, false}, {level(multi), f(b), a, true, false}, {order(left, 0, 9, 1, 1, 1, 1, 1, 1), f(b), h(f(a), f(a)), true, false}, {rising(left), m(a, b, f(x)), f(x), true, false}, {rising(left), m(f(x), b, a), f(x), true, false}, {rising(left), m(a, f(x), b), f(x), true, false},
		// A greater place.
		{rising(left), b, a, true, false}, {rising(left), a, b, false, false}, {rising(left), h(x, y), f(x), true, false}, {rising(left), h(x, y), f(f(g(y))), true, false}, {rising(left), h(x, y), f(v(2)), false, false}, {rising(left), k(x, y), h(k(x, y), x), false, false}, {rising(left), b, f(a), false, false}, {rising(left), k(x, y), h(y, x), true, false}, {rising(left), k(x, a), h(x, y), false, false}, {rising(left), k(x, a), h(y, x), false, false}, {order(left, 5, 4, 3, 2, 1, 0, 0, 0), a, f(f(h(b, b))), true, false},
		// Equal places, from the left.
		{rising(left), h(f(x), y), h(x, h(x, y)), true, false}, {rising(left), h(x, f(y)), h(x, y), true, false}, {rising(left), h(x, f(y)), h(f(x), y), false, false}, {rising(left), h(f(x), y), h(x, h(f(x), y)), false, false}, {rising(left), h(f(x), y), h(x, v(2)), false, false}, {rising(left), h(f(x), x), h(f(x), x), false, true}, {rising(left), h(f(x), y), h(y, x), false, false}, {rising(left), m(x, f(y), a), m(x, y, f(f(y))), true, false}, {rising(left), m(a, b, f(x)), m(a, b, x), true, false}, {rising(left), m(f(a), a, a), m(a, f(b), f(b)), true, false}, {rising(left), m(f(a), a, a), m(a, f(f(a)), a), true, false}, {rising(left), m(f(a), x, x), m(a, f(y), x), false, false},
		{level(left), f(x), g(x), false, true}, {level(left), h(x, y), k(x, y), false, true}, {level(left), h(x, y), k(y, x), false, false}, {level(left), a, b, false, true}, {level(left), h(f(a), g(x)), k(g(b), f(x)), false, true}, {level(left), h(x, y), f(x), true, false}, {level(left), f(x), h(x, y), false, false}, {level(left), f(x), h(x, x), false, false}, {level(left), f(f(x)), h(x, x), true, false}, {level(left), h(y, x), f(x), false, false}, {level(left), h(x, f(y)), f(y), true, false}, {level(left), f(a), b, true, false}, {level(left), a, f(b), false, false}, {level(left), m(x, y, a), h(x, y), true, false}, {level(left), m(x, y, a), h(y, x), false, false}, {level(left), h(f(x), y), m(x, y, y), true, false}, {level(left), h(f(x), y), m(g(x), y, y), false, false},
		// From the right.
		{rising(right), h(x, f(y)), h(f(x), y), true, false}, {rising(right), h(x, f(y)), h(v(2), y), false, false}, {rising(right), h(f(x), f(y)), h(f(x), y), true, false}, {rising(right), h(x, f(y)), h(h(x, y), y), true, false}, {rising(right), h(f(x), y), h(x, y), true, false}, {rising(right), h(f(x), y), h(x, f(y)), false, false}, {rising(right), h(x, y), h(y, x), false, false}, {rising(right), m(a, f(y), x), m(f(f(y)), y, x), true, false}, {rising(right), m(a, a, f(a)), m(f(b), f(b), a), true, false}, {level(right), m(a, x, y), h(x, y), true, false}, {level(right), m(x, y, a), h(x, y), false, false}, {level(right), h(x, y), f(y), true, false}, {level(right), h(y, f(x)), m(y, y, x), true, false}, {level(right), h(f(x), y), m(x, x, y), true, false}, {level(right), h(x, y), k(x, y), false, true}, {level(right), h(x, y), k(y, x), false, false},
		// As multisets.
		{rising(multi), h(x, y), h(y, x), false, true}, {rising(multi), h(x, x), h(x, y), false, false}, {rising(multi), h(x, y), h(x, x), false, false}, {rising(multi), h(f(x), y), h(y, x), true, false}, {rising(multi), h(f(x), y), h(x, x), true, false}, {rising(multi), h(f(x), y), h(f(x), f(y)), false, false}, {rising(multi), h(f(x), f(x)), h(f(x), x), true, false}, {rising(multi), h(f(x), f(x)), h(f(x), g(x)), false, false}, {rising(multi), h(f(x), x), h(f(x), f(x)), false, false}, {rising(multi), m(x, y, f(x)), m(f(x), y, x), false, true}, {rising(multi), m(f(x), f(x), y), m(f(x), x, x), true, false}, {rising(multi), m(f(x), y, y), m(f(x), x, x), false, false}, {rising(multi), m(f(x), f(y), y), m(y, y, x), true, false}, {rising(multi), m(f(x), f(y), y), m(y, y, f(x)), true, false}, {rising(multi), m(f(x), f(y), y), m(f(y), f(y), x), false, false}, {rising(multi), m(x, y, y), m(x, x, y), false, false},
		{level(multi), m(x, x, y), h(x, x), true, false}, {level(multi), m(x, x, y), h(x, y), true, false}, {level(multi), h(x, y), m(x, y, y), false, false}, {level(multi), h(x, x), f(x), true, false}, {level(multi), f(x), h(x, x), false, false}, {level(multi), f(f(x)), h(x, x), true, false}, {level(multi), h(x, f(y)), k(g(y), x), false, true}, {level(multi), f(x), a, true, false}, {level(multi), f(x), g(x), false, true}, {level(multi), a, b, false, true}, {level(multi), m(f(x), y, a), m(y, b, g(x)), false, true}, {level(multi), h(h(x, y), f(a)), k(g(b), k(y, x)), false, true}, {level(multi), h(f(x), f(y)), m(y, x, x), true, false},
		{mixed(0, 0, 0, 0, 4, 4, 5, 6, left, left, left, left, multi, multi, right, left), h(x, f(y)), k(g(y), x), false, true}, {mixed(0, 0, 0, 0, 4, 4, 5, 6, left, left, left, left, multi, multi, right, left), m(x, a, h(x, y)), m(b, b, k(y, x)), false, false}, {mixed(0, 0, 0, 0, 4, 4, 5, 6, left, left, left, left, multi, multi, right, left), m(f(x), a, h(x, y)), m(x, b, k(y, x)), true, false}, {mixed(0, 0, 0, 0, 4, 4, 5, 6, left, left, left, left, multi, multi, right, left), m(a, x, h(x, y)), m(b, x, k(y, x)), false, true},
		// Eight arguments.
		{rising(left), many(f(x), a, y), many(x, f(a), y), true, false}, {rising(right), many(f(x), a, y), many(x, f(a), y), false, false}, {rising(right), many(x, a, f(y)), many(f(x), b, y), true, false}, {rising(multi), many(x, a, f(y)), many(f(y), a, x), false, true}, {rising(multi), many(x, b, f(y)), many(f(y), a, x), true, false}, {rising(multi), many(x, a, f(y)), many(f(y), a, f(x)), false, false}, {level(multi), many(x, b, f(y)), many(g(y), a, x), false, true}, {level(left), many(x, b, y), many(x, a, y), false, true},
	} {
		if got, eq := greater(t, s, c.o, c.a, c.b), equal(t, s, c.o, c.a, c.b); got != c.greater || eq != c.same {
			t.Errorf("%d: %v and %v: greater %v, equal %v; want %v, %v", i, c.a, c.b, got, eq, c.greater, c.same)
		}
		if back := equal(t, s, c.o, c.b, c.a); back != c.same || (c.greater || c.same) && greater(t, s, c.o, c.b, c.a) {
			t.Errorf("%d: %v and %v, the other way round: greater, or equal %v", i, c.a, c.b, back)
		}
	}
}

// P6.1: terms, of any sorts, that were made by chance, against the chapter's words.
func TestComparedByWords(t *testing.T) {
	found, same := 0, 0
	for seed := range int64(60) {
		g := newMaker(seed)
		s := some()
		o := g.order(s)
		w := words{o}
		for range 150 {
			a, b := g.pair(s, g.r.Intn(4))
			is, eq := greater(t, s, o, a, b), equal(t, s, o, a, b)
			if is != w.greater(a, b) || eq != w.equal(a, b) {
				t.Fatalf("by %v, %v and %v: greater %v, equal %v", o, a, b, is, eq)
			}
			if is {
				found++
			}
			if eq && !slices.Equal(flat(a), flat(b)) {
				same++
			}
		}
	}
	if found < 2000 || found > 7000 || same < 100 {
		t.Errorf("of 9000 pairs, %d were greater, %d equal but not the same", found, same)
	}
}

// flat returns the nodes of a term.
func flat(t api.Term) []int {
	l := []int{t.Kind, t.N, len(t.L)}
	for _, x := range t.L {
		l = append(l, flat(x)...)
	}
	return l
}

// P6.1: what is an order of a signature.
func TestCheckOrder(t *testing.T) {
	s := signature(o("a", 0), o("f", 1), o("h", 2))
	for i, c := range []struct {
		s    api.Sig
		o    api.Order
		want api.Errno
	}{
		{s, order(1, 0, 1, 2), api.OK}, {s, order(2, 0, 0, 0), api.OK}, {s, order(3, 255, 255, 255), api.OK}, {s, mixed(0, 255, 7, 1, 2, 3), api.OK}, {s, mixed(7, 7, 0, 3, 3, 1), api.OK}, {s, mixed(7, 0, 7, 3, 1, 3), api.OK},
		{signature(), api.Order{}, api.OK}, {api.Sig{}, api.Order{}, api.OK}, {signature(), order(1, 0), api.ErrOrder}, {s, api.Order{}, api.ErrOrder},
		{s, order(1, 0, 1), api.ErrOrder}, {s, order(1, 0, 1, 2, 3), api.ErrOrder}, {s, api.Order{Place: []int{0, 1, 2}, Status: []int{1, 1}}, api.ErrOrder}, {s, api.Order{Place: []int{0, 1, 2}, Status: []int{1, 1, 1, 1}}, api.ErrOrder}, {s, api.Order{Place: []int{0, 1}, Status: []int{1, 1, 1}}, api.ErrOrder}, {s, api.Order{Place: []int{0, 1, 2, 3}, Status: []int{1, 1, 1}}, api.ErrOrder}, {s, api.Order{Place: []int{0, 1, 2}}, api.ErrOrder}, {s, api.Order{Status: []int{1, 1, 1}}, api.ErrOrder},
		{s, order(1, 0, 256, 1), api.ErrOrder}, {s, order(1, -1, 0, 1), api.ErrOrder}, {s, order(1, 0, 1, -1), api.ErrOrder}, {s, order(1, 0, 1, 256), api.ErrOrder}, {s, order(1, 0, 1, 1<<62), api.ErrOrder}, {s, order(0, 0, 1, 2), api.ErrOrder}, {s, order(4, 0, 1, 2), api.ErrOrder}, {s, order(-1, 0, 1, 2), api.ErrOrder}, {s, mixed(0, 1, 2, 1, 0, 1), api.ErrOrder}, {s, mixed(0, 1, 2, 1, 1, 4), api.ErrOrder},
		{s, mixed(0, 0, 1, 1, 2, 1), api.ErrOrder}, {s, mixed(0, 1, 0, 1, 1, 3), api.ErrOrder}, {s, mixed(1, 0, 0, 1, 2, 3), api.ErrOrder}, {s, mixed(0, 1, 1, 1, 2, 1), api.ErrOrder}, {s, mixed(5, 5, 5, 1, 1, 3), api.ErrOrder},
		{api.Sig{Ops: []api.Op{{Name: "a"}}}, order(1, 0), api.ErrSig}, {api.Sig{Sorts: []string{"_"}}, api.Order{}, api.ErrSig}, {signature(o("a", 0), o("a", 0)), order(1, 0, 1), api.ErrSig}, {signature(o("", 0)), order(1, 256), api.ErrSig}, {signature(o("f", 9)), api.Order{}, api.ErrSig},
	} {
		if err := paths.CheckOrder(c.s, c.o); err != c.want {
			t.Errorf("%d: CheckOrder(%v): error %d; want %d", i, c.o, err, c.want)
		}
	}
	constants := signature()
	var l []int
	for n := range 256 {
		constants.Ops = append(constants.Ops, o(string([]byte{'a' + byte(n/16), 'a' + byte(n%16)}), 0))
		l = append(l, 255-n)
	}
	if err := paths.CheckOrder(constants, order(1, l...)); err != api.OK {
		t.Errorf("CheckOrder of 256 places: error %d", err)
	}
	if !greater(t, constants, order(1, l...), op(0), op(255)) || greater(t, constants, order(1, l...), op(255), op(254)) {
		t.Error("Greater of 256 places")
	}
}

// call is a function of two terms, with whether what it returned beside the error is zero.
type call func(s api.Sig, o api.Order, a, b api.Term) (bool, api.Errno)

// calls is the functions that take terms, by their names.
func calls() map[string]call {
	return map[string]call{
		"Greater": func(s api.Sig, o api.Order, a, b api.Term) (bool, api.Errno) {
			is, err := paths.Greater(s, o, a, b)
			return !is, err
		},
		"Equal": func(s api.Sig, o api.Order, a, b api.Term) (bool, api.Errno) {
			is, err := paths.Equal(s, o, a, b)
			return !is, err
		},
		"Prove": func(s api.Sig, o api.Order, a, b api.Term) (bool, api.Errno) {
			p, is, err := paths.Prove(s, o, a, b)
			return !is && same(p, api.PathProof{}), err
		},
		"Verify": func(s api.Sig, o api.Order, a, b api.Term) (bool, api.Errno) {
			return true, paths.Verify(s, o, a, b, api.PathProof{Rule: api.PathSub})
		},
		"Sort": func(s api.Sig, o api.Order, a, b api.Term) (bool, api.Errno) {
			l, err := paths.Sort(s, o, []api.Term{a, b})
			return len(l) == 0, err
		},
	}
}

// noTerms are terms that are none of the signature of nat, each for one reason.
func noTerms() []api.Term {
	return []api.Term{
		{}, {Kind: 3}, {Kind: -1}, {Kind: api.KVar, N: -1}, {Kind: api.KOp, N: -1}, {Kind: api.KVar, L: []api.Term{zero()}}, op(3), op(1 << 62), op(0, zero()), op(1), op(1, zero(), zero()), op(2, zero()), op(2, zero(), zero(), zero()), op(2), add(zero(), op(0, v(0))), add(succ(op(1)), zero()), add(zero(), op(3)), succ(api.Term{}), succ(v(-1)),
		op(2, make([]api.Term, 9)...), times(1, 200, zero()), times(1, 200, v(0)), doubled(2),
	}
}

// P6.1, P6.2, P6.4: what is wrong is told in order: signatures, orders, terms.
func TestComparisonErrors(t *testing.T) {
	s, good := nat().Sig, order(api.ByLeft, 0, 0, 1)
	badSig := signature(o("z", 0), o("s", 1), o("z", 0))
	bad := mixed(0, 0, 1, 1, 2, 1)
	for name, f := range calls() {
		check := func(what string, s api.Sig, o api.Order, a, b api.Term, want api.Errno) {
			t.Helper()
			if isZero, err := f(s, o, a, b); err != want || !isZero {
				t.Errorf("%s, %s: error %d, want %d; zero %v", name, what, err, want, isZero)
			}
		}
		for i, x := range noTerms() {
			check("no signature", badSig, bad, x, x, api.ErrSig)
			check("no order", s, bad, x, zero(), api.ErrOrder)
			check("no order", s, bad, zero(), x, api.ErrOrder)
			for _, y := range []api.Term{x, zero(), succ(zero()), v(0)} {
				if _, err := f(s, good, x, y); err != api.ErrTerm {
					t.Errorf("%s of no term %d: error %d", name, i, err)
				}
				check("no term", s, good, y, x, api.ErrTerm)
				check("no term", s, good, x, y, api.ErrTerm)
			}
		}
		check("no signature", badSig, good, succ(zero()), zero(), api.ErrSig)
		check("no order", s, bad, succ(zero()), zero(), api.ErrOrder)
		check("no order", s, api.Order{}, v(0), v(0), api.ErrOrder)
		if _, err := f(s, good, succ(zero()), zero()); err != api.OK {
			t.Errorf("%s: error %d", name, err)
		}
	}
}

// P6.1, P6.2: terms as great and as deep as they can be, and ones that many ways lead through, though they have few parts.
func TestGreatTerms(t *testing.T) {
	s := signature(o("z", 0), o("s", 1), o("f", 2), o("n", 8))
	for i, c := range []struct {
		o          api.Order
		a, b       api.Term
		want, back bool
	}{
		{order(1, 0, 1, 2, 3), times(1, 199, v(0)), times(1, 198, v(0)), true, false}, {order(3, 0, 1, 2, 3), times(1, 199, v(0)), times(1, 199, v(1)), false, false}, {order(2, 0, 0, 0, 0), times(1, 199, op(0)), times(1, 198, op(0)), true, false},
		{order(1, 0, 1, 2, 3), bush(3, 1, 2000), bush(3, 1, 1900), true, false}, {order(3, 0, 1, 2, 3), bush(3, 1, 1900), bush(3, 1, 2000), false, true}, {order(3, 0, 0, 0, 0), bush(3, 1, 2000), bush(3, 1, 1999), true, false},
		{order(1, 0, 1, 2, 3), broad(2, 199, 1, v(0)), broad(2, 199, 2, v(0)), false, false}, {order(3, 0, 1, 2, 3), broad(2, 199, 1, v(0)), broad(2, 198, 1, op(1, v(0))), true, false}, {order(1, 0, 1, 2, 3), broad(2, 198, 1, op(1, v(0))), broad(2, 198, 1, v(0)), true, false}, {order(3, 0, 1, 2, 3), broad(2, 198, 1, op(1, v(0))), broad(2, 198, 1, v(0)), true, false}, {order(1, 0, 1, 2, 3), broad(2, 198, 1, op(1, v(0))), broad(2, 198, 1, v(999)), false, false},
	} {
		got, err := paths.Greater(s, c.o, c.a, c.b)
		back, wrong := paths.Greater(s, c.o, c.b, c.a)
		if got != c.want || back != c.back || err != api.OK || wrong != api.OK {
			t.Errorf("%d: greater %v, the other way round %v, errors %d, %d", i, got, back, err, wrong)
		}
		if equal(t, s, c.o, c.a, c.b) || !equal(t, s, c.o, c.a, c.a) || !equal(t, s, c.o, c.b, c.b) {
			t.Errorf("%d: equal, or not equal to itself", i)
		}
	}
	for i, x := range []api.Term{times(1, 200, v(0)), broad(2, 200, 1, v(0)), op(1, bush(3, 1, 2000))} {
		if got, err := paths.Greater(s, order(1, 0, 1, 2, 3), x, v(0)); got || err != api.ErrTerm {
			t.Errorf("%d, too great: greater %v, error %d", i, got, err)
		}
	}
}
