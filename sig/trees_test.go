package sig_test

import (
	"math/rand"
	"slices"
	"testing"

	"madrigal/api"
	"madrigal/sig"
)

// P4.1: what is a tree.
func TestTrees(t *testing.T) {
	good := append(examples(), chain(200, zero()), chain(200, v(0)), bush(2000), op(1<<63-1), v(1<<63-1), bush(9), op(0, bush(8), v(0), v(0), v(0), v(0), v(0), v(0), v(0)), api.Term{Kind: api.KVar, L: []api.Term{}})
	for _, x := range good {
		if err := sig.Tree(x); err != api.OK {
			t.Errorf("Tree(%v): error %d", x, err)
		}
	}
	for i, x := range noTrees() {
		if err := sig.Tree(x); err != api.ErrTerm {
			t.Errorf("Tree of %d: error %d; want %d", i, err, api.ErrTerm)
		}
	}
}

// P4.2: how great terms are, trees or not.
func TestSize(t *testing.T) {
	for i, x := range []struct {
		t           api.Term
		nodes, deep int
	}{
		{zero(), 1, 1}, {v(3), 1, 1}, {api.Term{}, 1, 1}, {plus(v(0), succ(zero())), 4, 3}, {plus(succ(succ(zero())), v(0)), 5, 4}, {chain(200, zero()), 200, 200}, {bush(2000), 2000, 5}, {bush(1999), 1999, 5},
		{api.Term{Kind: api.KVar, N: -1, L: []api.Term{zero(), zero()}}, 3, 2}, {op(0, make([]api.Term, 1999)...), 2000, 2},
		{bush(2001), 2001, 201}, {chain(201, zero()), 2001, 201}, {doubled(100), 2001, 201}, {op(0, make([]api.Term, 2000)...), 2001, 201}, {chain(3000, zero()), 2001, 201}, {chain(1<<16, zero()), 2001, 201},
		{plus(zero(), chain(200, zero())), 2001, 201}, {plus(chain(199, zero()), bush(1800)), 2000, 200}, {plus(chain(199, zero()), bush(1801)), 2001, 201},
	} {
		if nodes, deep := sig.Size(x.t); nodes != x.nodes || deep != x.deep {
			t.Errorf("Size of %d: %d, %d; want %d, %d", i, nodes, deep, x.nodes, x.deep)
		}
	}
}

// P4.2: variables, and terms without any.
func TestVars(t *testing.T) {
	for _, x := range []struct {
		l    []api.Term
		want []int
	}{
		{nil, nil}, {[]api.Term{zero()}, nil}, {[]api.Term{plus(v(3), v(1)), v(3)}, []int{3, 1}}, {[]api.Term{v(0), succ(v(0)), v(5), plus(v(2), plus(v(5), v(1)))}, []int{0, 5, 2, 1}}, {[]api.Term{v(1<<63 - 1)}, []int{1<<63 - 1}},
	} {
		if l := sig.Vars(x.l); !slices.Equal(l, x.want) {
			t.Errorf("Vars(%v): %v; want %v", x.l, l, x.want)
		}
	}
	for _, x := range examples() {
		if l := sig.Vars([]api.Term{x}); !slices.Equal(l, occurring(x)) || sig.Ground(x) != (len(l) == 0) {
			t.Errorf("Vars(%v): %v, Ground %v", x, l, sig.Ground(x))
		}
	}
	for i, x := range noTrees() {
		if l := sig.Vars([]api.Term{v(0), x}); len(l) != 0 {
			t.Errorf("Vars of %d: %v", i, l)
		}
		if l := sig.Vars([]api.Term{x, v(0)}); len(l) != 0 {
			t.Errorf("Vars of %d: %v", i, l)
		}
		if sig.Ground(x) {
			t.Errorf("Ground of %d", i)
		}
	}
	if !sig.Ground(bush(2000)) || !sig.Ground(chain(200, zero())) || sig.Ground(chain(200, v(0))) || !sig.Ground(op(77)) {
		t.Error("Ground")
	}
}

// anyTerms are terms of all kinds, many of which are no trees, and many of which are equal.
func anyTerms() []api.Term {
	r := rand.New(rand.NewSource(4))
	l := []api.Term{{}, {Kind: 3}, {Kind: -1}, {Kind: 1, N: -1}, {Kind: 2, N: -1}, {Kind: -1 << 63}, {Kind: 1<<63 - 1}, {Kind: 2, N: -1 << 63}, {Kind: 2, N: 1<<63 - 1}, {Kind: api.KVar, L: []api.Term{zero()}}, {Kind: api.KVar, L: []api.Term{}}, op(0, []api.Term{}...), {Kind: 2, L: make([]api.Term, 0, 3)}, op(1, make([]api.Term, 12)...), op(1, make([]api.Term, 13)...)}
	for range 70 {
		x := tree(r, 3, 2)
		y := copied(x)
		places := places(y)
		z := &y
		for _, i := range places[r.Intn(len(places))] {
			z = &z.L[i]
		}
		switch r.Intn(4) {
		case 0:
			z.Kind = 3 - z.Kind
		case 1:
			z.N++
		case 2:
			z.L = append(z.L, v(0))
		}
		l = append(l, x, y)
	}
	return l
}

// P4.2: the order of terms, as the chapter tells it.
func TestCompare(t *testing.T) {
	for _, x := range []struct {
		a, b api.Term
		want int
	}{
		{v(0), zero(), -1}, {zero(), succ(zero()), -1}, {succ(v(0)), succ(zero()), -1}, {plus(v(1), v(0)), plus(v(0), v(1)), 1}, {op(1, zero()), op(1), 1}, {op(1, zero()), op(1, zero(), v(0)), -1}, {op(1, op(5)), op(2), -1}, {v(2), v(10), -1},
		{plus(v(0), v(1)), plus(v(0), v(1)), 0}, {plus(zero(), succ(v(1))), plus(zero(), succ(v(0))), 1}, {op(3, v(9), v(9)), op(3, v(0), v(0), v(0)), -1},
	} {
		if got, back := sig.Compare(x.a, x.b), sig.Compare(x.b, x.a); got != x.want || back != -x.want {
			t.Errorf("Compare(%v, %v): %d, and back %d; want %d", x.a, x.b, got, back, x.want)
		}
	}
	l := anyTerms()
	for _, a := range l {
		for _, b := range l {
			want := slices.Compare(flat(a), flat(b))
			if got := sig.Compare(a, b); got != want {
				t.Errorf("Compare(%v, %v): %d; want %d", a, b, got, want)
			}
			if sig.Same(a, b) != (want == 0) {
				t.Errorf("Same(%v, %v): %v", a, b, sig.Same(a, b))
			}
		}
	}
	if a, b := chain(1<<16, zero()), chain(1<<16, v(0)); !sig.Same(a, copied(a)) || sig.Same(a, b) || sig.Compare(a, b) != 1 {
		t.Error("Compare of deep terms")
	}
}

// P4.6: that is a total order, in which what is the same alone is equal.
func TestTotalOrder(t *testing.T) {
	l := anyTerms()
	for _, a := range l {
		for _, b := range l {
			order := sig.Compare(a, b)
			if sig.Compare(b, a) != -order || (order == 0) != sig.Same(a, b) || sig.Same(a, b) != equal(a, b) {
				t.Errorf("%v and %v: %d, and back %d; the same: %v", a, b, order, sig.Compare(b, a), sig.Same(a, b))
			}
			for _, c := range l {
				if order <= 0 && sig.Compare(b, c) <= 0 && sig.Compare(a, c) > 0 {
					t.Errorf("%v, %v and %v are in no order", a, b, c)
				}
			}
		}
	}
}
