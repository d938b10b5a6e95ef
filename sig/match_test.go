package sig_test

import (
	"math/rand"
	"testing"

	"madrigal/api"
	"madrigal/sig"
)

// P4.4: what variables of a pattern are.
func TestMatch(t *testing.T) {
	none := api.Term{}
	for _, x := range []struct {
		p, t api.Term
		want []api.Term
	}{
		{plus(v(0), v(0)), plus(succ(v(1)), succ(v(1))), []api.Term{succ(v(1))}}, {v(2), zero(), []api.Term{none, none, zero()}}, {zero(), zero(), nil}, {plus(v(3), v(1)), plus(v(1), v(3)), []api.Term{none, v(3), none, v(1)}}, {v(0), v(0), []api.Term{v(0)}},
		{plus(v(0), succ(v(1))), plus(v(1), succ(v(0))), []api.Term{v(1), v(0)}}, {v(0), v(1<<63 - 1), []api.Term{v(1<<63 - 1)}}, {op(5, v(0), v(0), v(1)), op(5, zero(), zero(), bush(90)), []api.Term{zero(), bush(90)}}, {v(0), bush(2000), []api.Term{bush(2000)}},
	} {
		if l, is, err := sig.Match(x.p, x.t); !is || err != api.OK || !equals(l, x.want) {
			t.Errorf("Match(%v, %v): %v, %v, error %d; want %v", x.p, x.t, l, is, err, x.want)
		}
	}
	if l, is, err := sig.Match(plus(v(4000), zero()), plus(zero(), zero())); !is || err != api.OK || len(l) != 4001 || !equal(l[4000], zero()) || !equal(l[3999], none) || !equal(l[0], none) {
		t.Errorf("Match of the variable 4000: %d elements, %v, error %d", len(l), is, err)
	}
	for _, x := range [][2]api.Term{
		{plus(v(0), v(0)), plus(zero(), succ(zero()))}, {zero(), succ(zero())}, {zero(), v(0)}, {succ(v(0)), v(0)}, {succ(v(0)), v(1)}, {op(1), op(2)}, {op(1), op(1, zero())}, {op(1, v(0)), op(1)}, {op(1, v(0)), op(1, v(0), v(0))}, {op(1, v(0)), op(2, v(0))}, {op(3), v(3)}, {plus(v(0), zero()), plus(zero(), v(0))}, {plus(v(0), v(0)), plus(v(0), v(1))}, {plus(succ(v(0)), v(1)), plus(zero(), v(1))}, {plus(plus(v(0), v(1)), v(0)), plus(plus(zero(), v(5)), v(5))},
	} {
		if l, is, err := sig.Match(x[0], x[1]); is || err != api.OK || len(l) != 0 {
			t.Errorf("Match(%v, %v): %v, %v, error %d", x[0], x[1], l, is, err)
		}
	}
}

// P4.4: what cannot be matched, and cannot be unified.
func TestMatchErrors(t *testing.T) {
	type function func(a, b api.Term) ([]api.Term, bool, api.Errno)
	for name, f := range map[string]function{"Match": sig.Match, "Unify": sig.Unify} {
		for i, x := range noTrees() {
			for _, pair := range [][2]api.Term{{x, zero()}, {zero(), x}, {v(4001), x}, {x, v(4001)}, {x, x}} {
				if l, is, err := f(pair[0], pair[1]); is || err != api.ErrTerm || len(l) != 0 {
					t.Errorf("%s of %d: %v, %v, error %d", name, i, l, is, err)
				}
			}
		}
		for _, x := range []api.Term{v(4001), succ(v(4001)), plus(v(4001), zero()), v(1<<63 - 1)} {
			if l, is, err := f(x, zero()); is || err != api.ErrArg || len(l) != 0 {
				t.Errorf("%s of %v: %v, %v, error %d", name, x, l, is, err)
			}
		}
	}
	for _, x := range []api.Term{v(4001), plus(zero(), v(4001)), v(1<<63 - 1)} {
		if l, is, err := sig.Unify(zero(), x); is || err != api.ErrArg || len(l) != 0 {
			t.Errorf("Unify of %v: %v, %v, error %d", x, l, is, err)
		}
	}
}

// instance returns by which substitution a tree is an instance of another one: each variable can only be what stands where it is first.
func instance(p, t api.Term) ([]api.Term, bool) {
	l := make([]api.Term, last(p)+1)
	there := map[string]bool{}
	for _, path := range places(t) {
		there[string(bytes(path))] = true
	}
	for _, path := range places(p) {
		x := at(p, path)
		if !there[string(bytes(path))] {
			return nil, false
		}
		if x.Kind == api.KVar && l[x.N].Kind == 0 {
			l[x.N] = at(t, path)
		}
	}
	return l, equal(with(p, l), t)
}

func bytes(l []int) []byte {
	var out []byte
	for _, n := range l {
		out = append(out, byte(n))
	}
	return out
}

// P4.10: there is a substitution exactly of instances.
func TestInstances(t *testing.T) {
	r := rand.New(rand.NewSource(10))
	found := 0
	for range 20000 {
		p, x := tree(r, 3, 3), tree(r, 4, 3)
		if r.Intn(3) == 0 {
			x = with(p, trees(r, 3, 2, 2))
		}
		l, is, err := sig.Match(p, x)
		want, isOne := instance(p, x)
		if err != api.OK || is != isOne || is && !equals(l, want) || !is && len(l) != 0 {
			t.Errorf("Match(%v, %v): %v, %v, error %d; want %v, %v", p, x, l, is, err, want, isOne)
		}
		if is {
			found++
		}
	}
	if found < 7000 || found > 15000 {
		t.Errorf("%d of 20000 were instances", found)
	}
}

// P4.10: two trees that match each other differ by the names of variables alone.
func TestRenamed(t *testing.T) {
	r := rand.New(rand.NewSource(11))
	found := 0
	for range 20000 {
		a, b := tree(r, 3, 3), tree(r, 3, 3)
		if r.Intn(3) == 0 {
			names := r.Perm(5)
			b = renamed(a, func(n int) int { return names[n] })
		}
		_, one, _ := sig.Match(a, b)
		_, other, _ := sig.Match(b, a)
		x, _, _ := sig.Normal([]api.Term{a})
		y, _, _ := sig.Normal([]api.Term{b})
		if (one && other) != equals(x, y) {
			t.Errorf("%v and %v match each other: %v, %v; numbered anew they are %v and %v", a, b, one, other, x, y)
		}
		if one && other {
			found++
		}
	}
	if found < 6000 || found > 15000 {
		t.Errorf("%d of 20000 matched each other", found)
	}
}
