package sig_test

import (
	"math/rand"
	"slices"
	"testing"

	"madrigal/api"
	"madrigal/sig"
)

// P4.3: terms in the places of variables.
func TestSubst(t *testing.T) {
	r := rand.New(rand.NewSource(6))
	if got, err := sig.Subst(plus(v(0), v(1)), []api.Term{succ(v(1)), zero()}); err != api.OK || !equal(got, plus(succ(v(1)), zero())) {
		t.Errorf("Subst: %v, error %d", got, err)
	}
	for _, x := range examples() {
		l := trees(r, last(x)+1+r.Intn(2), 3, 9)
		if got, err := sig.Subst(x, l); err != api.OK || !equal(got, with(x, l)) {
			t.Errorf("Subst(%v, %v): %v, error %d", x, l, got, err)
		}
		if n := last(x); n >= 0 {
			if got, err := sig.Subst(x, l[:n]); err != api.ErrArg || !equal(got, api.Term{}) {
				t.Errorf("Subst(%v, %v): %v, error %d", x, l[:n], got, err)
			}
		}
	}
	for i, x := range noTrees() {
		if got, err := sig.Subst(x, []api.Term{zero()}); err != api.ErrTerm || !equal(got, api.Term{}) {
			t.Errorf("Subst in %d: %v, error %d", i, got, err)
		}
		for _, y := range []api.Term{zero(), v(0), v(2)} { // also where the element is put nowhere, or another one lacks
			if got, err := sig.Subst(y, []api.Term{zero(), x}); err != api.ErrTerm || !equal(got, api.Term{}) {
				t.Errorf("Subst of %d: %v, error %d", i, got, err)
			}
		}
	}
	if got, err := sig.Subst(v(1<<63-1), nil); err != api.ErrArg || !equal(got, api.Term{}) {
		t.Errorf("Subst: %v, error %d", got, err)
	}
}

// P4.3: terms that become too great.
func TestSubstLimits(t *testing.T) {
	leaves := op(7)
	for range 8 {
		leaves.L = append(leaves.L, op(7, v(0), v(0), v(0), v(0), v(0), v(0), v(0), v(0)))
	}
	for i, x := range []struct {
		t    api.Term
		l    []api.Term
		want api.Errno
	}{
		{plus(v(0), v(1)), []api.Term{bush(1000), bush(999)}, api.OK}, {plus(v(0), v(1)), []api.Term{bush(1000), bush(1000)}, api.ErrLimit}, {plus(v(0), v(0)), []api.Term{bush(999)}, api.OK}, {plus(v(0), v(0)), []api.Term{bush(1000)}, api.ErrLimit},
		{v(1), []api.Term{bush(2000), bush(2000)}, api.OK}, {zero(), []api.Term{bush(2000)}, api.OK}, {leaves, []api.Term{bush(31)}, api.OK}, {leaves, []api.Term{bush(32)}, api.ErrLimit}, {leaves, []api.Term{bush(2000)}, api.ErrLimit},
		{chain(101, v(0)), []api.Term{chain(100, zero())}, api.OK}, {chain(101, v(0)), []api.Term{chain(101, zero())}, api.ErrLimit}, {chain(200, v(0)), []api.Term{succ(zero())}, api.ErrLimit}, {chain(200, v(0)), []api.Term{v(3)}, api.OK}, {v(0), []api.Term{chain(200, v(0))}, api.OK},
		{plus(succ(v(0)), zero()), []api.Term{chain(198, zero())}, api.OK}, {plus(succ(v(0)), zero()), []api.Term{chain(199, zero())}, api.ErrLimit},
		{plus(bush(1000), v(0)), []api.Term{bush(999)}, api.OK}, {plus(bush(1000), v(0)), []api.Term{bush(1000)}, api.ErrLimit}, {plus(v(0), bush(1000)), []api.Term{bush(1000)}, api.ErrLimit},
	} {
		got, err := sig.Subst(x.t, x.l)
		if err != x.want || err == api.OK && !equal(got, with(x.t, x.l)) || err != api.OK && !equal(got, api.Term{}) {
			t.Errorf("Subst %d: error %d; want %d", i, err, x.want)
		}
	}
	// Hundreds of variables each become 2000 nodes.
	full := plus(bush(1001), zero())
	for range 997 / 7 {
		full = op(7, full, v(0), v(0), v(0), v(0), v(0), v(0))
	}
	if got, err := sig.Subst(full, []api.Term{bush(2000)}); err != api.ErrLimit || !equal(got, api.Term{}) {
		t.Errorf("Subst: error %d", err)
	}
}

// P4.8: a substitution behind another one is that of the elements of the first one with the second one put in.
func TestSubstTwice(t *testing.T) {
	r := rand.New(rand.NewSource(7))
	for _, x := range append(examples(), trees(r, 500, 4, 4)...) {
		a, b := trees(r, 10, 3, 5), trees(r, 5, 3, 4)
		y, _ := sig.Subst(x, a)
		one, err := sig.Subst(y, b)
		var l []api.Term
		for _, u := range a {
			u, _ = sig.Subst(u, b)
			l = append(l, u)
		}
		if other, wrong := sig.Subst(x, l); err != api.OK || wrong != api.OK || !equal(one, other) {
			t.Errorf("%v with %v, then %v: %v, error %d; %v, error %d", x, a, b, one, err, other, wrong)
		}
	}
}

// P4.3: other numbers of variables.
func TestShift(t *testing.T) {
	const most, least = 1<<63 - 1, -1 << 63
	for _, x := range []struct {
		t        api.Term
		from, by int
		want     api.Term
	}{
		{plus(v(0), v(1)), 1, 2, plus(v(0), v(3))}, {plus(v(0), v(1)), 0, 2, plus(v(2), v(3))}, {plus(v(0), v(1)), 2, 2, plus(v(0), v(1))}, {plus(v(5), v(1)), 2, -3, plus(v(2), v(1))}, {v(3), 3, 0, v(3)},
		{v(0), 0, 1000000, v(1000000)}, {v(1000000), 0, -1000000, v(0)}, {v(1000000), 1000000, 0, v(1000000)}, {v(most), 0, -most, v(0)}, {v(most), 5, 5 - most, v(5)}, {v(most), 5, 1000000 - most, v(1000000)},
		{zero(), 0, most, zero()}, {zero(), most, least, zero()}, {v(4), 5, most, v(4)}, {v(2000000), 3000000, 1, v(2000000)}, {succ(v(2000000)), 2000001, -1, succ(v(2000000))}, {v(most - 1), most, 1, v(most - 1)}, {v(2000000), 0, -1999999, v(1)},
	} {
		if got, err := sig.Shift(x.t, x.from, x.by); err != api.OK || !equal(got, x.want) {
			t.Errorf("Shift(%v, %d, %d): %v, error %d; want %v", x.t, x.from, x.by, got, err, x.want)
		}
	}
	for _, x := range []struct {
		t        api.Term
		from, by int
	}{
		{v(0), -1, 0}, {zero(), -1, 0}, {v(9), least, 1}, {v(0), 0, -1}, {v(5), 5, -1}, {v(5), 3, -3}, {plus(v(9), v(5)), 3, -3}, {plus(v(5), v(9)), 3, -3}, {v(0), 0, 1000001}, {v(1000000), 0, 1}, {v(1000001), 0, 0}, {v(1000001), 1000001, 0}, {v(0), 0, most}, {v(0), 0, least}, {v(7), 7, most}, {v(most), 0, 1}, {v(most), 0, most}, {v(most), most, -1}, {v(most), most, least}, {v(most), 0, least}, {plus(v(0), v(2)), 1, 1000000},
	} {
		if got, err := sig.Shift(x.t, x.from, x.by); err != api.ErrArg || !equal(got, api.Term{}) {
			t.Errorf("Shift(%v, %d, %d): %v, error %d", x.t, x.from, x.by, got, err)
		}
	}
	for i, x := range noTrees() {
		for _, from := range []int{0, -1} {
			if got, err := sig.Shift(x, from, 0); err != api.ErrTerm || !equal(got, api.Term{}) {
				t.Errorf("Shift of %d: %v, error %d", i, got, err)
			}
		}
	}
}

// P4.12: shifted there and back nothing has changed; shifted by two numbers is shifted by their sum.
func TestShiftTwice(t *testing.T) {
	r := rand.New(rand.NewSource(8))
	for _, x := range append(examples(), trees(r, 300, 4, 9)...) {
		from, a, b := r.Intn(10), r.Intn(20), r.Intn(40)-20
		y, err := sig.Shift(x, from, a)
		if want := renamed(x, func(n int) int {
			if n < from {
				return n
			}
			return n + a
		}); err != api.OK || !equal(y, want) {
			t.Errorf("Shift(%v, %d, %d): %v, error %d; want %v", x, from, a, y, err, want)
		}
		if back, err := sig.Shift(y, from, -a); err != api.OK || !equal(back, x) {
			t.Errorf("Shift(%v, %d, %d), and back: %v, error %d", x, from, a, back, err)
		}
		z, err := sig.Shift(y, from, b)
		if sum, wrong := sig.Shift(x, from, a+b); err != wrong || !equal(z, sum) {
			t.Errorf("Shift(%v, %d, %d), then %d: %v, error %d; by the sum: %v, error %d", x, from, a, b, z, err, sum, wrong)
		}
	}
}

// P4.3: variables by their first occurrence.
func TestNormal(t *testing.T) {
	for _, x := range []struct {
		l, want []api.Term
		were    []int
	}{
		{nil, nil, nil}, {[]api.Term{zero()}, []api.Term{zero()}, nil}, {[]api.Term{plus(v(1), v(0)), v(1)}, []api.Term{plus(v(0), v(1)), v(0)}, []int{1, 0}},
		{[]api.Term{v(7), plus(v(3), succ(v(7))), v(1<<63 - 1), v(3)}, []api.Term{v(0), plus(v(1), succ(v(0))), v(2), v(1)}, []int{7, 3, 1<<63 - 1}},
	} {
		if l, were, err := sig.Normal(x.l); err != api.OK || !equals(l, x.want) || !slices.Equal(were, x.were) {
			t.Errorf("Normal(%v): %v, %v, error %d; want %v, %v", x.l, l, were, err, x.want, x.were)
		}
	}
	for i, x := range noTrees() {
		for _, l := range [][]api.Term{{x}, {v(1), x}, {x, v(1)}} {
			if l, were, err := sig.Normal(l); err != api.ErrTerm || len(l) != 0 || len(were) != 0 {
				t.Errorf("Normal of %d: %v, %v, error %d", i, l, were, err)
			}
		}
	}
}

// P4.11: trees that differ by names of variables have one normal form, from which they come back; normal trees stay.
func TestNormalForms(t *testing.T) {
	r := rand.New(rand.NewSource(9))
	for range 500 {
		l := trees(r, 1+r.Intn(3), 4, 5)
		normal, were, err := sig.Normal(l)
		if err != api.OK || !slices.Equal(were, occurring(l...)) {
			t.Fatalf("Normal(%v): %v, %v, error %d", l, normal, were, err)
		}
		var back []api.Term
		for _, n := range were {
			back = append(back, v(n))
		}
		for i, x := range normal {
			if y, err := sig.Subst(x, back); err != api.OK || !equal(y, l[i]) {
				t.Errorf("Normal(%v), put back: %v, error %d", l, y, err)
			}
		}
		again, now, _ := sig.Normal(normal)
		if !equals(again, normal) {
			t.Errorf("Normal(%v): %v, and of that %v", l, normal, again)
		}
		for i, n := range now {
			if i != n {
				t.Errorf("Normal(%v): the variable %d was %d", normal, i, n)
			}
		}
		names := r.Perm(40)
		var others []api.Term
		for _, x := range l {
			others = append(others, renamed(x, func(n int) int { return names[n] }))
		}
		if same, _, err := sig.Normal(others); err != api.OK || !equals(same, normal) {
			t.Errorf("Normal(%v): %v, error %d; of %v: %v", others, same, err, l, normal)
		}
	}
}
