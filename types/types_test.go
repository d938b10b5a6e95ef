package types_test

import (
	"slices"
	"strings"
	"testing"

	"madrigal/api"
	"madrigal/sig"
	"madrigal/types"
)

// logic is the signature of numbers and truth: 0, s, _+_, _eq_, true.
func logic() api.Sig {
	return signature("nat bool", o("0", 0), o("s", 0, 0), o("_+_", 0, 0, 0), o("_eq_", 0, 0, 1), o("true", 1), o("_+_", 1, 1, 1))
}

func zero() api.Term              { return op(0) }
func succ(x api.Term) api.Term    { return op(1, x) }
func plus(x, y api.Term) api.Term { return op(2, x, y) }
func is(x, y api.Term) api.Term   { return op(3, x, y) }
func yes() api.Term               { return op(4) }

// sum is a term with so many variables, all of them different ones.
func sum(variables int) api.Term {
	t := v(0)
	for n := range variables - 1 {
		t = plus(t, v(n+1))
	}
	return t
}

// repeated is a list of so many equal elements.
func repeated[T any](n int, x T) []T { return slices.Repeat([]T{x}, n) }

// wide is a term of so many nodes that is not deep.
func wide(nodes int) api.Term {
	switch nodes {
	case 1:
		return zero()
	case 2:
		return succ(zero())
	}
	return plus(wide((nodes-1)/2), wide(nodes-1-(nodes-1)/2))
}

// goodEqns are equations over logic.
func goodEqns() []api.Eqn {
	n := []int{0}
	conds := func(many int) api.Eqn { return eq(n, succ(v(0)), zero(), repeated(2*many, v(0))...) }
	return []api.Eqn{
		eq(nil, zero(), succ(zero())), eq(nil, zero(), zero()), eq(n, succ(v(0)), v(0)), eq(n, plus(v(0), v(0)), zero()), eq([]int{1, 0, 1, 0}, is(v(3), v(1)), yes()),
		eq([]int{0, 1}, op(3, v(0), v(0)), yes(), is(v(0), zero()), yes(), v(0), succ(v(0))), eq([]int{1}, op(5, v(0), yes()), v(0), v(0), yes()),
		conds(1), conds(8), eq(repeated(64, 0), sum(64), v(63), v(5), v(7)), eq(repeated(64, 1), zero(), zero()),
		eq(n, chain(200, 1, v(0)), chain(200, 1, zero())), eq(nil, wide(2000), wide(2000), wide(2000), wide(2000)), eq(n, succ(v(0)), chain(200, 1, v(0)), v(0), chain(200, 1, v(0))),
	}
}

// noTerms are no terms over logic, whatever the sorts of variables are.
func noTerms() []api.Term {
	return []api.Term{
		{}, {Kind: 3}, {Kind: -1, N: 1}, v(-1), v(1 << 62), {Kind: api.KVar, L: []api.Term{zero()}}, op(-1), op(6), op(1 << 62), op(0, zero()), op(1), op(1, zero(), zero()), op(2, zero()), op(2, make([]api.Term, 9)...),
		succ(yes()), plus(zero(), yes()), plus(is(zero(), v(1)), zero()), succ(succ(op(9))), plus(zero(), succ(api.Term{})), chain(201, 1, zero()), chain(201, 1, v(0)), wide(2001), doubled(2),
	}
}

// otherTerms are terms over logic, but not of the sort nat with two variables of nat and one of bool.
func otherTerms() []api.Term {
	return []api.Term{v(2), v(3), yes(), is(v(0), v(1)), succ(v(2)), succ(v(3)), plus(v(0), v(2)), plus(v(2), v(0)), op(5, v(2), yes()), is(v(2), v(2))}
}

// badEqns are no equations over logic, each for one reason.
func badEqns() []api.Eqn {
	n, three := []int{0}, []int{0, 0, 1}
	all := op(2, plus(v(0), v(1)), succ(zero()))
	l := []api.Eqn{
		{}, eq(n, v(0), v(0)), eq(n, v(0), zero()), eq([]int{0, 0}, v(0), v(1)), eq(nil, zero(), yes()), eq(nil, yes(), zero()), eq([]int{1}, succ(v(0)), zero()),
		eq([]int{0, 0}, succ(v(0)), v(1)), eq([]int{0, 0}, succ(v(1)), v(0)), eq([]int{0, 0}, succ(v(0)), plus(v(0), v(1))), eq(n, zero(), v(0)), eq([]int{0, 0}, succ(v(0)), v(0), v(1), zero()), eq([]int{0, 0}, succ(v(0)), v(0), zero(), v(1)), eq([]int{0, 0}, succ(v(0)), v(0), v(0), v(0), v(1), v(1)),
		eq(n, succ(v(0)), v(0), repeated(18, v(0))...), eq(n, succ(v(0)), v(0), zero(), yes()), eq(n, succ(v(0)), v(0), yes(), zero()), eq(n, succ(v(0)), v(0), v(0), v(0), yes(), v(0)), eq(three, is(v(0), v(1)), yes(), v(0), v(2)),
		eq(repeated(65, 0), zero(), zero()), eq(repeated(65, 0), sum(64), zero()), eq([]int{2}, zero(), zero()), eq([]int{-1}, zero(), zero()), eq([]int{0, 0, 0, 2}, succ(v(0)), zero()), eq([]int{-1}, succ(v(0)), v(0)), eq([]int{1 << 62}, zero(), zero()), eq(nil, succ(v(0)), zero()),
	}
	for _, t := range append(noTerms(), otherTerms()...) {
		l = append(l, eq(three, plus(plus(v(0), v(1)), t), zero()), eq(three, t, zero()), eq(three, all, t), eq(three, all, zero(), t, v(0)), eq(three, all, zero(), v(0), v(1), v(0), t))
	}
	return l
}

// badSignatures are no signatures.
func badSignatures() []api.Sig {
	long := signature("s")
	long.Ops = constants(257, "c")
	return []api.Sig{signature("nat nat"), signature("a_b"), {Sorts: []string{""}}, {Sorts: many(65, "s")}, long, signature("", o("c", 0)), signature("s", o("c", 1)), signature("s", o("c", 0), o("c", 0)), signature("s", o("_+_", 0, 0)), signature("s", o("f", -1, 0)), signature("s", o("f", 0, 0, 0, 0, 0, 0, 0, 0, 0, 0)), signature("s", o("(", 0))}
}

// P5.1: what is a type.
func TestCheck(t *testing.T) {
	s := logic()
	good := []api.Type{{}, {Sig: s}, numbers(), {Sig: s, Eqns: goodEqns()}, {Sig: s, Eqns: repeated(400, goodEqns()[0])}, data(strings.Join(many(64, "s"), " "), constants(256, "c")...)}
	for i, x := range good {
		if err := types.Check(x); err != api.OK {
			t.Errorf("Check %d: error %d", i, err)
		}
	}
	bad := []api.Type{{Sig: s, Eqns: repeated(401, goodEqns()[0])}, {Eqns: goodEqns()[:1]}}
	for _, e := range badEqns() {
		bad = append(bad, api.Type{Sig: s, Eqns: []api.Eqn{e}}, api.Type{Sig: s, Eqns: append(goodEqns(), e)}, api.Type{Sig: s, Eqns: append([]api.Eqn{e}, goodEqns()...)})
	}
	for _, s := range badSignatures() {
		bad = append(bad, api.Type{Sig: s})
	}
	for i, x := range bad {
		if err := types.Check(x); err != api.ErrType {
			t.Errorf("Check %d: error %d; want %d", i, err, api.ErrType)
		}
		if _, _, _, err := types.Sum(x, api.Type{}); err != api.ErrType {
			t.Errorf("Sum of %d: error %d", i, err)
		}
		if sum, m, n, err := types.Sum(numbers(), x); err != api.ErrType || !same(sum, api.Type{}) || !same(m, api.Morph{}) || !same(n, api.Morph{}) {
			t.Errorf("Sum with %d: %v, %v, %v, error %d", i, sum, m, n, err)
		}
	}
}

// P5.1: types are equal field by field, also what are none.
func TestSame(t *testing.T) {
	full := func() api.Type {
		return api.Type{Sig: signature("a b", o("c", 0), o("f", 0, 1, 1)), Eqns: []api.Eqn{eq([]int{0, 1}, op(1, v(0), v(1)), v(1), v(0), op(0), v(1), op(1, v(0), v(1))), {}}}
	}
	changes := []func(x *api.Type){
		func(x *api.Type) { x.Sig.Sorts[1] = "c" }, func(x *api.Type) { x.Sig.Sorts = x.Sig.Sorts[:1] }, func(x *api.Type) { x.Sig.Sorts = append(x.Sig.Sorts, "") },
		func(x *api.Type) { x.Sig.Ops[1].Name = "g" }, func(x *api.Type) { x.Sig.Ops[1].Args[0] = 1 }, func(x *api.Type) { x.Sig.Ops[1].Args = x.Sig.Ops[1].Args[:1] }, func(x *api.Type) { x.Sig.Ops[0].Args = []int{0} }, func(x *api.Type) { x.Sig.Ops[0].Res = 1 }, func(x *api.Type) { x.Sig.Ops = x.Sig.Ops[:1] }, func(x *api.Type) { slices.Reverse(x.Sig.Ops) },
		func(x *api.Type) { x.Eqns = x.Eqns[:1] }, func(x *api.Type) { x.Eqns = append(x.Eqns, api.Eqn{}) }, func(x *api.Type) { slices.Reverse(x.Eqns) }, func(x *api.Type) { x.Eqns[0].Vars[1] = 0 }, func(x *api.Type) { x.Eqns[0].Vars = append(x.Eqns[0].Vars, 0) }, func(x *api.Type) { x.Eqns[1].Vars = []int{0} },
		func(x *api.Type) { x.Eqns[0].A.L[0].N = 1 }, func(x *api.Type) { x.Eqns[0].A.Kind = 7 }, func(x *api.Type) { x.Eqns[0].B.N = 0 }, func(x *api.Type) { x.Eqns[1].B.N = 1 }, func(x *api.Type) { x.Eqns[1].A.L = []api.Term{{}} },
		func(x *api.Type) { x.Eqns[0].Conds[0].A.N = 1 }, func(x *api.Type) { x.Eqns[0].Conds[0].B.N = 1 }, func(x *api.Type) { x.Eqns[0].Conds[1].B.L = nil }, func(x *api.Type) { x.Eqns[0].Conds = x.Eqns[0].Conds[:1] }, func(x *api.Type) { slices.Reverse(x.Eqns[0].Conds) }, func(x *api.Type) { x.Eqns[1].Conds = []api.Pair{{}} },
	}
	if !types.Same(full(), full()) || !types.Same(api.Type{}, api.Type{}) || !types.Same(numbers(), numbers()) {
		t.Errorf("Same: a type differs from itself")
	}
	empty := api.Type{Sig: api.Sig{Sorts: []string{}, Ops: []api.Op{{Args: []int{}}}}, Eqns: []api.Eqn{{Vars: []int{}, Conds: []api.Pair{}, A: api.Term{L: []api.Term{}}}}}
	if other := (api.Type{Sig: api.Sig{Ops: make([]api.Op, 1)}, Eqns: make([]api.Eqn, 1)}); !types.Same(empty, other) || !types.Same(other, empty) {
		t.Errorf("Same: nil and empty lists differ")
	}
	for i, change := range changes {
		x := full()
		change(&x)
		if types.Same(x, full()) || types.Same(full(), x) || !types.Same(x, copied(x)) {
			t.Errorf("Same: the change %d", i)
		}
	}
}

// P5.1: variables are numbered by their first occurrence in the left side; those that do not occur go.
func TestStandard(t *testing.T) {
	s := logic()
	for _, x := range []struct{ e, want api.Eqn }{
		{eq(nil, zero(), succ(zero())), eq(nil, zero(), succ(zero()))}, {eq([]int{1, 0, 0}, zero(), zero()), eq(nil, zero(), zero())},
		{eq([]int{0, 0}, plus(v(1), v(0)), v(0)), eq([]int{0, 0}, plus(v(0), v(1)), v(1))}, {eq([]int{1, 1, 0, 0}, is(v(3), succ(v(2))), yes()), eq([]int{0, 0}, is(v(0), succ(v(1))), yes())},
		{eq([]int{0, 1, 0}, op(3, v(2), v(0)), yes(), v(0), v(2), is(v(0), v(0)), yes()), eq([]int{0, 0}, op(3, v(0), v(1)), yes(), v(1), v(0), is(v(1), v(1)), yes())},
		{eq([]int{0, 1}, op(5, v(1), op(3, v(0), v(0))), v(1)), eq([]int{1, 0}, op(5, v(0), op(3, v(1), v(1))), v(0))},
	} {
		if got, err := types.Standard(s, x.e); err != api.OK || !same(got, x.want) {
			t.Errorf("Standard(%v): %v, error %d; want %v", x.e, got, err, x.want)
		}
	}
	for _, e := range goodEqns() {
		got, err := types.Standard(s, e)
		if err != api.OK || !same(got, renumbered(e)) {
			t.Errorf("Standard(%v): %v, error %d", e, got, err)
		}
		if again, err := types.Standard(s, got); err != api.OK || !same(again, got) {
			t.Errorf("Standard(%v): %v, error %d", got, again, err)
		}
		for i, s := range badSignatures() {
			if got, err := types.Standard(s, e); err != api.ErrType || !same(got, api.Eqn{}) {
				t.Errorf("Standard over %d: %v, error %d", i, got, err)
			}
		}
	}
	for i, e := range badEqns() {
		if got, err := types.Standard(s, e); err != api.ErrType || !same(got, api.Eqn{}) {
			t.Errorf("Standard of %d: %v, error %d", i, got, err)
		}
	}
	for seed := range int64(300) {
		g := newMaker(seed)
		x := g.data()
		for _, e := range x.Eqns {
			got, err := types.Standard(x.Sig, e)
			if err != api.OK || !same(got, renumbered(e)) || types.Check(api.Type{Sig: x.Sig, Eqns: []api.Eqn{got}}) != api.OK {
				t.Errorf("Standard(%v): %v, error %d", e, got, err)
			}
		}
	}
}

// P5.1: what sig.Sort says of the sides of equations, it says of those that Check takes.
func TestSorts(t *testing.T) {
	taken := 0
	for seed := range int64(1000) {
		g := newMaker(seed)
		x := g.data()
		for _, e := range x.Eqns {
			l := []api.Eqn{copied(e)}
			for range g.r.Intn(3) {
				g.nudgeEqn(l)
			}
			want := isEqn(len(x.Sig.Sorts), x.Sig.Ops, l[0])
			if err := types.Check(api.Type{Sig: x.Sig, Eqns: l}); (err == api.OK) != want {
				t.Errorf("Check of %v over %v: error %d", l[0], x.Sig, err)
			}
			if !want {
				continue
			}
			taken++
			all := termsOf(l[0])
			for i := 0; i < len(all); i += 2 {
				a, err := sig.Sort(x.Sig, l[0].Vars, all[i])
				if b, wrong := sig.Sort(x.Sig, l[0].Vars, all[i+1]); err != api.OK || wrong != api.OK || a != b {
					t.Errorf("sorts of %v: %d, error %d; %d, error %d", l[0], a, err, b, wrong)
				}
			}
		}
	}
	if taken < 500 {
		t.Errorf("%d equations", taken)
	}
}
