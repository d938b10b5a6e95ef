package paths_test

import (
	"slices"
	"testing"

	"madrigal/api"
	"madrigal/paths"
)

// blamed is the first equation that does not decrease, and whether there is one, by the chapter's words.
func blamed(t api.Type, o api.Order) (int, bool) {
	w := words{o}
	for i, e := range t.Eqns {
		if !w.decreases(e) {
			return i, true
		}
	}
	return 0, false
}

// checkBlame holds Check and Blame against the words, and returns whether all equations decrease.
func checkBlame(t *testing.T, x api.Type, o api.Order) bool {
	t.Helper()
	want := api.OK
	k, is := blamed(x, o)
	if is {
		want = api.ErrOrder
	}
	if err := paths.Check(x, o); err != want {
		t.Fatalf("Check(%v, %v): error %d; want %d", x.Eqns, o, err, want)
	}
	if i, bad, err := paths.Blame(x, o); i != k || bad != is || err != api.OK {
		t.Fatalf("Blame(%v, %v): %d, %v, error %d; want %d, %v", x.Eqns, o, i, bad, err, k, is)
	}
	return !is
}

// P6.3: the chapter's examples, and conditions, each side of which has to be less.
func TestBlame(t *testing.T) {
	n := nat()
	rule := func(l ...api.Term) api.Type {
		return data(n.Sig, n.Eqns[0], eq(1, add(succ(v(0)), v(0)), v(0), l...))
	}
	x, y := v(0), v(1)
	below, above := []api.Term{x, succ(x)}, []api.Term{zero(), add(x, succ(x))}
	for i, c := range []struct {
		t     api.Type
		o     api.Order
		want  api.Errno
		blame int
	}{
		{n, order(1, 0, 0, 1), api.OK, 0}, {n, order(1, 0, 0, 0), api.ErrOrder, 1}, {n, order(1, 0, 2, 1), api.ErrOrder, 1}, {n, order(3, 0, 1, 2), api.OK, 0}, {n, order(2, 2, 1, 3), api.OK, 0}, {n, order(2, 2, 1, 1), api.ErrOrder, 1}, {n, order(1, 5, 255, 254), api.ErrOrder, 1},
		{data(n.Sig), order(1, 2, 1, 0), api.OK, 0}, {data(n.Sig, eq(2, add(x, y), add(y, x))), order(3, 0, 1, 2), api.ErrOrder, 0}, {data(n.Sig, n.Eqns[1], n.Eqns[0], eq(0, zero(), zero())), order(1, 0, 1, 2), api.ErrOrder, 2}, {data(n.Sig, n.Eqns[0], eq(0, zero(), zero()), eq(1, succ(x), succ(x))), order(1, 0, 1, 2), api.ErrOrder, 1},
		{rule(), order(1, 0, 1, 2), api.OK, 0}, {rule(below...), order(1, 0, 1, 2), api.OK, 0}, {rule(below[1], below[0]), order(1, 0, 1, 2), api.OK, 0}, {rule(above[0], above[0]), order(1, 0, 1, 2), api.OK, 0}, {rule(above[0], above[0]), order(1, 3, 1, 2), api.ErrOrder, 1}, {rule(above...), order(1, 0, 1, 2), api.OK, 0}, {rule(above...), order(2, 0, 1, 2), api.ErrOrder, 1}, {rule(above[1], above[0]), order(2, 0, 1, 2), api.ErrOrder, 1}, {rule(x, x, x, x, x, x, x, x, x, x, x, x, x, x, x, x), order(1, 0, 1, 2), api.OK, 0}, {rule(x, x, x, x, x, x, x, x, x, x, x, x, x, x, x, add(succ(x), x)), order(1, 0, 1, 2), api.ErrOrder, 1}, {rule(x, x, x, x, x, x, x, x, x, x, x, x, x, x, add(succ(x), x), x), order(1, 0, 1, 2), api.ErrOrder, 1},
	} {
		if err := paths.Check(c.t, c.o); err != c.want {
			t.Errorf("%d: Check: error %d; want %d", i, err, c.want)
		}
		if k, is, err := paths.Blame(c.t, c.o); k != c.blame || is != (c.want != api.OK) || err != api.OK {
			t.Errorf("%d: Blame: %d, %v, error %d; want %d", i, k, is, err, c.blame)
		}
		checkBlame(t, c.t, c.o)
	}
}

// P6.3, P6.10: equations that were made by chance; fewer equations; the one that is blamed.
func TestBlameByWords(t *testing.T) {
	fine, bad := 0, 0
	for seed := range int64(300) {
		g := newMaker(seed + 300)
		x := g.equations(2+g.r.Intn(4), 4)
		for range 6 {
			o := g.order(x.Sig)
			isFine := checkBlame(t, x, o)
			fewer := data(x.Sig)
			for _, e := range x.Eqns {
				if g.once(2) {
					fewer.Eqns = append(fewer.Eqns, e)
				}
			}
			if isFine {
				fine++
				if err := paths.Check(fewer, o); err != api.OK {
					t.Fatalf("by %v, some of %v: error %d", o, x.Eqns, err)
				}
				continue
			}
			bad++
			k, _, _ := paths.Blame(x, o)
			if err := paths.Check(data(x.Sig, x.Eqns[:k]...), o); err != api.OK {
				t.Fatalf("by %v, those of %v ahead of %d: error %d", o, x.Eqns, k, err)
			}
			if i, is, err := paths.Blame(data(x.Sig, x.Eqns[k]), o); i != 0 || !is || err != api.OK {
				t.Fatalf("by %v, %v alone: %d, %v, error %d", o, x.Eqns[k], i, is, err)
			}
		}
	}
	if fine < 100 || bad < 500 {
		t.Errorf("%d types decreased, %d did not", fine, bad)
	}
}

// noTypes are no types, for one reason each.
func noTypes() []api.Type {
	n := nat()
	twoSorts := api.Sig{Sorts: []string{"N", "M"}, Ops: []api.Op{{Name: "a"}, {Name: "b", Res: 1}, {Name: "f", Args: []int{1}}}}
	return []api.Type{
		data(signature(o("z", 0), o("z", 0))), data(api.Sig{Ops: n.Sig.Ops}), data(n.Sig, eq(1, v(0), zero())), data(n.Sig, eq(1, succ(zero()), v(0))), data(n.Sig, eq(1, succ(v(0)), v(1))), data(n.Sig, eq(0, succ(v(0)), zero())), data(n.Sig, eq(0, op(3), zero())), data(n.Sig, eq(0, op(1), zero())), data(n.Sig, n.Eqns[0], eq(2, succ(v(0)), zero(), v(1), zero())), data(n.Sig, eq(1, succ(v(0)), zero(), slices.Repeat([]api.Term{v(0)}, 18)...)), data(n.Sig, eq(65, succ(v(0)), zero())), data(n.Sig, eq(0, succ(zero()), times(1, 200, zero()))), data(n.Sig, slices.Repeat([]api.Eqn{n.Eqns[0]}, 401)...), data(twoSorts, eq(0, op(0), op(1))), data(twoSorts, eq(0, op(2, op(0)), op(0))),
	}
}

// P6.3, P6.4: what is wrong with types, and then with orders.
func TestTypeErrors(t *testing.T) {
	good, bad := order(1, 0, 0, 1), mixed(0, 0, 1, 1, 2, 1)
	for i, x := range noTypes() {
		for _, o := range []api.Order{good, bad, {}} {
			if err := paths.Check(x, o); err != api.ErrType {
				t.Errorf("Check of no type %d: error %d", i, err)
			}
			if k, is, err := paths.Blame(x, o); k != 0 || is || err != api.ErrType {
				t.Errorf("Blame of no type %d: %d, %v, error %d", i, k, is, err)
			}
		}
		if o, is, err := paths.Find(x); is || err != api.ErrType || !same(o, api.Order{}) {
			t.Errorf("Find of no type %d: %v, %v, error %d", i, o, is, err)
		}
		if o, is, err := paths.Guess(x); is || err != api.ErrType || !same(o, api.Order{}) {
			t.Errorf("Guess of no type %d: %v, %v, error %d", i, o, is, err)
		}
	}
	for i, x := range []api.Type{nat(), data(nat().Sig), data(nat().Sig, eq(0, zero(), zero()))} {
		for _, o := range []api.Order{bad, {}, order(1, 0, 1), order(1, 0, 1, 256), order(0, 0, 1, 2), order(1, 0, 1, 2, 3)} {
			if err := paths.Check(x, o); err != api.ErrOrder {
				t.Errorf("%d: Check of no order %v: error %d", i, o, err)
			}
			if k, is, err := paths.Blame(x, o); k != 0 || is || err != api.ErrOrder {
				t.Errorf("%d: Blame of no order %v: %d, %v, error %d", i, o, k, is, err)
			}
		}
	}
}

// P6.3: as many equations, with as many conditions, as there can be, of great terms.
func TestGreatTypes(t *testing.T) {
	s := signature(o("z", 0), o("s", 1), o("f", 2), o("n", 8))
	x := data(s)
	for i := range 400 {
		a := op(2, times(1, i%190, v(0)), bush(3, 1, 400+i))
		x.Eqns = append(x.Eqns, eq(1, a, v(0), slices.Repeat([]api.Term{times(1, i%180, v(0)), bush(3, 1, 390+i)}, 8)...))
	}
	if err := paths.Check(x, order(1, 0, 1, 2, 3)); err != api.OK {
		t.Errorf("Check: error %d", err)
	}
	x.Eqns[399].Conds[7].B = x.Eqns[399].A
	if k, is, err := paths.Blame(x, order(1, 0, 1, 2, 3)); k != 399 || !is || err != api.OK {
		t.Errorf("Blame: %d, %v, error %d", k, is, err)
	}
}

// P6.3, P6.4: arguments stay as they are, and orders are memory of their own.
func TestTypeMemory(t *testing.T) {
	for seed := range int64(40) {
		g := newMaker(seed + 400)
		x := g.equations(3, 4)
		o := g.order(x.Sig)
		untouched(t, "Blame", func() []any {
			paths.Check(x, o)
			paths.Blame(x, o)
			return nil
		}, x, o)
		untouched(t, "Find", func() []any {
			a, _, _ := paths.Find(x)
			b, _, _ := paths.Guess(x)
			c, _, _ := paths.Find(x)
			return []any{a, b, c}
		}, x)
	}
}
