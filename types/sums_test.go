package types_test

import (
	"slices"
	"strings"
	"testing"

	"madrigal/api"
	"madrigal/types"
)

// byNames is the sum of types by names: sorts, operations, equations.
func byNames(l ...api.Type) [3][]string {
	var out [3][]string
	for _, x := range l {
		w := viewOf(x.Sig)
		var eqns []string
		for _, e := range x.Eqns {
			eqns = append(eqns, w.eqn(renumbered(e)))
		}
		for i, part := range [][]string{w.sorts, w.ops, eqns} {
			for _, text := range part {
				if !slices.Contains(out[i], text) {
					out[i] = append(out[i], text)
				}
			}
		}
	}
	return out
}

// raw is a type by names, with the equations as they stand.
func raw(x api.Type) [3][]string {
	w := viewOf(x.Sig)
	out := [3][]string{w.sorts, w.ops, nil}
	for _, e := range x.Eqns {
		out[2] = append(out[2], w.eqn(e))
	}
	return out
}

func sorted(l [3][]string) [3][]string {
	for i := range l {
		l[i] = slices.Sorted(slices.Values(l[i]))
	}
	return l
}

func equalNames(a, b [3][]string) bool {
	return slices.Equal(a[0], b[0]) && slices.Equal(a[1], b[1]) && slices.Equal(a[2], b[2])
}

// P5.3, P5.9: what two types have together is by names, and morphisms keep these.
func checkSum(t *testing.T, a, b api.Type) api.Type {
	t.Helper()
	sum, m, n, err := types.Sum(a, b)
	if err != api.OK || types.Check(sum) != api.OK {
		t.Fatalf("Sum(%v, %v): %v, error %d", a, b, sum, err)
	}
	if got, want := raw(sum), byNames(a, b); !equalNames(got, want) {
		t.Errorf("Sum(%v, %v): %v; want %v", a, b, got, want)
	}
	w := viewOf(sum.Sig)
	for i, m := range []api.Morph{m, n} {
		x := []api.Type{a, b}[i]
		if types.CheckMorph(x.Sig, sum.Sig, m) != api.OK || !slices.Equal(pick(w.sorts, m.Sorts), x.Sig.Sorts) || !slices.Equal(pick(w.ops, m.Ops), viewOf(x.Sig).ops) {
			t.Errorf("Sum(%v, %v): the morphism %d is %v", a, b, i, m)
		}
	}
	return sum
}

// P5.3: the sum of types.
func TestSum(t *testing.T) {
	f := func(vars []int, a, b int) api.Eqn { return eq(vars, op(0, v(a), v(b)), v(a), v(b), v(b)) }
	one := with(data("a b", o("f", 0, 1, 0), o("c", 1), o("f", 0, 0, 0)), f([]int{0, 1}, 0, 1), f([]int{1, 0}, 1, 0), eq([]int{0}, op(2, v(0), v(0)), v(0)))
	other := with(data("b c a", o("c", 2), o("f", 2, 0, 2), o("c", 0), o("f", 2, 0, 0), o("f", 2, 0, 1)), eq([]int{2, 0, 1}, op(1, v(0), v(1)), v(0), v(1), v(1)), eq([]int{2, 0}, op(1, v(0), v(1)), v(0), v(1), op(2)), eq([]int{2, 0}, op(1, v(0), v(1)), v(0)))
	sum, m, n, err := types.Sum(one, other)
	if err != api.OK || !same(m, api.Morph{Sorts: []int{0, 1}, Ops: []int{0, 1, 2}}) || !same(n, api.Morph{Sorts: []int{1, 2, 0}, Ops: []int{3, 0, 1, 4, 5}}) {
		t.Errorf("Sum: %v, %v, error %d", m, n, err)
	}
	want := with(data("a b c", o("f", 0, 1, 0), o("c", 1), o("f", 0, 0, 0), o("c", 0), o("f", 0, 1, 1), o("f", 0, 1, 2)),
		f([]int{0, 1}, 0, 1), eq([]int{0}, op(2, v(0), v(0)), v(0)), eq([]int{0, 1}, op(0, v(0), v(1)), v(0), v(1), op(1)), eq([]int{0, 1}, op(0, v(0), v(1)), v(0)))
	if !same(sum, want) {
		t.Errorf("Sum: %v; want %v", sum, want)
	}
	checkSum(t, one, other)
	checkSum(t, other, one)
	checkSum(t, api.Type{}, other)
	checkSum(t, one, api.Type{})
	checkSum(t, api.Type{}, api.Type{})
	// Equations differ that have other orders of conditions, other sides, or other sorts of variables.
	g := data("a b", o("f", 0, 0, 0), o("f", 1, 1, 0), o("k", 0))
	x, y := v(0), v(1)
	g = with(g, eq([]int{0, 0}, op(0, x, y), x, x, y, y, op(2)), eq([]int{0, 0}, op(0, x, y), x, y, op(2), x, y), eq([]int{0, 0}, op(0, x, y), x, y, x, y, op(2)), eq([]int{0, 0}, op(0, x, y), x, x, y), eq([]int{0, 0}, op(0, x, y), y, x, y), eq([]int{0}, op(0, x, x), x), eq([]int{0, 0}, op(0, x, y), op(0, x, y)), eq([]int{1, 1}, op(1, x, y), op(1, x, y)), eq([]int{1}, op(1, x, x), op(2)))
	if sum := checkSum(t, g, g); !same(sum, g) {
		t.Errorf("Sum of a type and itself: %v", sum)
	}
	// Operations differ that have another last argument, another result, or an argument more.
	long := func(l ...int) api.Op { return o("f", append([]int{0, 0, 0, 0, 0, 0, 0}, l...)...) }
	some, more := data("a b", long(0, 0), long(1, 0)), data("a b", long(1, 1), long(0), long(1), long(0, 1))
	if sum := checkSum(t, some, more); len(sum.Sig.Ops) != 6 {
		t.Errorf("Sum: %v", sum)
	}
	// An equation that only the numbers of sorts and operations make equal to another one is another one.
	left := with(data("a", o("f", 0, 0)), eq([]int{0}, op(0, v(0)), v(0)))
	right := with(data("b", o("f", 0, 0)), eq([]int{0}, op(0, v(0)), v(0)))
	if sum := checkSum(t, left, right); len(sum.Eqns) != 2 {
		t.Errorf("Sum: %v", sum)
	}
}

// P5.3: what is too large.
func TestSumLimits(t *testing.T) {
	sorts := func(n int, name string) api.Type { return data(strings.Join(many(n, name), " ")) }
	ops := func(n int, name string) api.Type { return data("s", constants(n, name)...) }
	eqns := func(from, to int) api.Type {
		x := ops(256, "c")
		for n := from; n < to; n++ {
			x.Eqns = append(x.Eqns, eq(nil, op(n/200), op(n%200)))
		}
		return x
	}
	for i, x := range []struct {
		a, b api.Type
		want api.Errno
	}{
		{sorts(64, "s"), sorts(64, "s"), api.OK}, {sorts(40, "s"), sorts(24, "t"), api.OK}, {sorts(40, "s"), sorts(25, "t"), api.ErrLimit}, {sorts(64, "s"), sorts(1, "t"), api.ErrLimit}, {sorts(1, "s"), sorts(64, "t"), api.ErrLimit}, {sorts(1, "s"), sorts(64, "s"), api.OK},
		{ops(256, "c"), ops(256, "c"), api.OK}, {ops(156, "c"), ops(100, "d"), api.OK}, {ops(156, "c"), ops(101, "d"), api.ErrLimit}, {ops(1, "d"), ops(256, "c"), api.ErrLimit},
		{eqns(0, 400), eqns(0, 400), api.OK}, {eqns(0, 200), eqns(200, 400), api.OK}, {eqns(0, 200), eqns(150, 400), api.OK}, {eqns(0, 200), eqns(200, 401), api.ErrLimit}, {eqns(0, 400), eqns(400, 401), api.ErrLimit}, {eqns(0, 1), eqns(1, 401), api.ErrLimit},
	} {
		sum, m, n, err := types.Sum(x.a, x.b)
		if err != x.want || err != api.OK && (!same(sum, api.Type{}) || !same(m, api.Morph{}) || !same(n, api.Morph{})) {
			t.Errorf("Sum %d: error %d; want %d", i, err, x.want)
		}
		if err == api.OK {
			checkSum(t, x.a, x.b)
		}
	}
}

// P5.8: the sum with itself, in the other order, and of three.
func TestSums(t *testing.T) {
	for seed := range int64(400) {
		g := newMaker(seed)
		a, b, c := g.data(), g.data(), g.data()
		ab := checkSum(t, a, b)
		if twice := checkSum(t, a, a); !same(twice.Sig, a.Sig) || !equalNames(raw(twice), byNames(a)) {
			t.Errorf("Sum of %v and itself: %v", a, twice)
		}
		if ba := checkSum(t, b, a); !equalNames(sorted(raw(ab)), sorted(raw(ba))) {
			t.Errorf("Sum(%v, %v): %v; in the other order: %v", a, b, ab, ba)
		}
		bc := checkSum(t, b, c)
		if left, right := checkSum(t, ab, c), checkSum(t, a, bc); !same(left, right) {
			t.Errorf("Sum of %v, %v, %v: %v; from the right: %v", a, b, c, left, right)
		}
	}
}
