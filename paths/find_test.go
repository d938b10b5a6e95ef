package paths_test

import (
	"slices"
	"testing"

	"madrigal/api"
	"madrigal/paths"
)

// ordersFor returns the orders for a type, in their order, by the chapter's words; the operations are those that occur.
func ordersFor(s api.Sig, ops []int) []api.Order {
	var l []api.Order
	for _, places := range tuples(len(ops), 0, len(ops)-1) {
		if len(places) > 0 && !isFull(places) {
			continue
		}
		for _, statuses := range tuples(len(ops), 1, 3) {
			x := api.Order{Place: slices.Repeat([]int{255}, len(s.Ops)), Status: slices.Repeat([]int{1}, len(s.Ops))}
			for i, n := range ops {
				x.Place[n], x.Status[n] = places[i], statuses[i]
			}
			if isOrder(x, len(s.Ops)) {
				l = append(l, x)
			}
		}
	}
	key := func(o api.Order) []int {
		var k []int
		for _, l := range [][]int{o.Place, o.Status} {
			for _, n := range ops {
				k = append(k, l[n])
			}
		}
		return k
	}
	slices.SortFunc(l, func(a, b api.Order) int { return slices.Compare(key(a), key(b)) })
	return l
}

// tuples returns all lists of so many numbers from one to another one.
func tuples(many, from, to int) [][]int {
	l := [][]int{nil}
	for range many {
		var longer [][]int
		for _, x := range l {
			for n := from; n <= to; n++ {
				longer = append(longer, append(slices.Clone(x), n))
			}
		}
		l = longer
	}
	return l
}

// isFull reports whether each number below the greatest one is there.
func isFull(l []int) bool {
	for n := range slices.Max(l) {
		if !slices.Contains(l, n) {
			return false
		}
	}
	return true
}

// occurring returns the operations that occur in a type, in order.
func occurring(x api.Type) []int {
	var l []int
	for n := range x.Sig.Ops {
		is := false
		for _, e := range x.Eqns {
			all := append(parts(e.A), parts(e.B)...)
			for _, c := range e.Conds {
				all = append(append(all, parts(c.A)...), parts(c.B)...)
			}
			is = is || slices.ContainsFunc(all, func(t api.Term) bool { return t.Kind == api.KOp && t.N == n })
		}
		if is {
			l = append(l, n)
		}
	}
	return l
}

// first returns the first order for a type by which all equations decrease.
func first(x api.Type) (api.Order, bool) {
	for _, o := range ordersFor(x.Sig, occurring(x)) {
		if _, is := blamed(x, o); !is {
			return o, true
		}
	}
	return api.Order{}, false
}

// P6.4: types for which orders have to be of some kind.
func TestFind(t *testing.T) {
	s := signature(o("a", 0), o("s", 1), o("f", 2), o("g", 2), o("h", 1), o("b", 0))
	x, y, a := v(0), v(1), op(0)
	succ := func(x api.Term) api.Term { return op(1, x) }
	f := func(x, y api.Term) api.Term { return op(2, x, y) }
	g := func(x, y api.Term) api.Term { return op(3, x, y) }
	h := func(x api.Term) api.Term { return op(4, x) }
	const none = 255
	for i, c := range []struct {
		l    []api.Eqn
		want api.Order
	}{
		{nil, order(1, none, none, none, none, none, none)},
		{[]api.Eqn{eq(2, f(x, y), x)}, order(1, none, none, 0, none, none, none)}, {[]api.Eqn{eq(0, op(5), a)}, order(1, 0, none, none, none, none, 1)}, {[]api.Eqn{eq(0, a, op(5))}, order(1, 1, none, none, none, none, 0)}, {[]api.Eqn{eq(0, a, a)}, api.Order{}},
		{[]api.Eqn{eq(2, f(x, y), f(y, x))}, api.Order{}}, {[]api.Eqn{eq(2, f(x, y), succ(f(x, y)))}, api.Order{}},
		{[]api.Eqn{eq(2, f(succ(x), y), f(x, succ(y)))}, order(1, none, 0, 1, none, none, none)},
		{[]api.Eqn{eq(2, f(x, succ(y)), f(succ(x), y))}, mixed(none, 0, 1, none, none, none, 1, 1, 2, 1, 1, 1)},
		{[]api.Eqn{eq(2, f(x, succ(y)), f(y, x)), eq(2, f(succ(x), y), f(y, x))}, mixed(none, 0, 0, none, none, none, 1, 3, 3, 1, 1, 1)},
		{[]api.Eqn{eq(2, f(succ(x), y), g(x, y)), eq(2, g(succ(x), y), f(x, y)), eq(1, f(x, a), succ(x)), eq(2, g(x, y), h(y), x, y)}, api.Order{}},
		{[]api.Eqn{eq(2, f(succ(x), y), g(x, y)), eq(2, g(succ(x), y), f(x, y)), eq(1, f(x, x), succ(succ(x)))}, order(1, none, 0, 1, 1, none, none)},
		{[]api.Eqn{eq(1, h(succ(x)), h(x)), eq(1, succ(h(x)), h(x))}, order(1, none, 0, none, none, 0, none)}, {[]api.Eqn{eq(1, h(succ(x)), succ(h(x)))}, order(1, none, 0, none, none, 1, none)}, {[]api.Eqn{eq(1, succ(h(x)), h(succ(x)))}, order(1, none, 1, none, none, 0, none)}, {[]api.Eqn{eq(1, h(succ(x)), succ(h(x))), eq(1, succ(h(x)), h(succ(x)))}, api.Order{}},
		// Conditions, with an operation that occurs in them alone.
		{[]api.Eqn{eq(2, f(x, y), x, g(y, x), y)}, order(1, none, none, 1, 0, none, none)}, {[]api.Eqn{eq(2, f(x, y), x, y, g(y, x))}, order(1, none, none, 1, 0, none, none)}, {[]api.Eqn{eq(2, f(x, y), x, x, x, y, f(y, x))}, api.Order{}}, {[]api.Eqn{eq(2, f(x, y), x, f(x, y), y)}, api.Order{}},
		// Four operations: the numbers, and another order of the places.
		{[]api.Eqn{eq(1, f(x, a), x), eq(2, f(x, succ(y)), succ(f(x, y))), eq(1, g(x, a), a), eq(2, g(x, succ(y)), f(g(x, y), x))}, order(1, 0, 0, 1, 2, none, none)}, {[]api.Eqn{eq(1, succ(x), h(x)), eq(1, h(x), f(x, x)), eq(1, f(x, a), a)}, order(1, 0, 2, 0, none, 1, none)}, {[]api.Eqn{eq(0, a, succ(f(g(op(5), op(5)), op(5)))), eq(0, succ(op(5)), op(5))}, api.Order{}},
	} {
		x := data(s, c.l...)
		o, is, err := paths.Find(x)
		isOne := len(c.want.Place) > 0
		if len(occurring(x)) > 4 {
			if is || err != api.ErrLimit || !same(o, api.Order{}) {
				t.Errorf("%d: Find: %v, %v, error %d", i, o, is, err)
			}
			continue
		}
		if want, ok := first(x); ok != isOne || !same(want, c.want) {
			t.Errorf("%d: %v, %v is the first one, not %v", i, want, ok, c.want)
		}
		if is != isOne || err != api.OK || !same(o, c.want) {
			t.Errorf("%d: Find: %v, %v, error %d; want %v", i, o, is, err, c.want)
		}
		checkFound(t, x)
	}
	n, want := nat(), order(1, 0, 0, 1)
	if o, is, err := paths.Find(n); !is || err != api.OK || !same(o, want) {
		t.Errorf("Find of nat: %v, %v, error %d", o, is, err)
	}
	if o, is, err := paths.Find(api.Type{}); !is || err != api.OK || !same(o, api.Order{}) {
		t.Errorf("Find of the empty type: %v, %v, error %d", o, is, err)
	}
	if o, is, err := paths.Guess(api.Type{}); err != api.OK || !same(o, api.Order{}) {
		t.Errorf("Guess of the empty type: %v, %v, error %d", o, is, err)
	}
}

// checkFound checks what Find and Guess return of a type in whose equations few operations occur, and returns whether Find found an order.
func checkFound(t *testing.T, x api.Type) bool {
	t.Helper()
	o, is, err := paths.Find(x)
	guess, ok, wrong := paths.Guess(x)
	if err != api.OK || wrong != api.OK || ok && !is {
		t.Fatalf("of %v, Find: %v, error %d, Guess: %v, error %d", x.Eqns, is, err, ok, wrong)
	}
	for _, c := range []struct {
		o  api.Order
		is bool
	}{{o, is}, {guess, ok}} {
		if !c.is && !same(c.o, api.Order{}) {
			t.Fatalf("of %v, an order that is not found: %v", x.Eqns, c.o)
		}
		if c.is && (!isOrder(c.o, len(x.Sig.Ops)) || !checkBlame(t, x, c.o)) {
			t.Fatalf("of %v, an order that is found: %v", x.Eqns, c.o)
		}
	}
	return is
}

// P6.4, P6.9: types that were made by chance, against all orders; where there is none, no other order will do.
func TestFindByWords(t *testing.T) {
	found, not := map[int]int{}, 0
	for seed := range int64(700) {
		g := newMaker(seed + 500)
		many := 1 + g.r.Intn(4)
		if many == 4 && g.once(2) {
			many = 3
		}
		x := g.equations(many, 3)
		want, isOne := first(x)
		o, is, err := paths.Find(x)
		if is != isOne || err != api.OK || !same(o, want) {
			t.Fatalf("Find of %v: %v, %v, error %d; want %v", x.Eqns, o, is, err, want)
		}
		if checkFound(t, x) {
			found[len(occurring(x))]++
			continue
		}
		not++
		for range 40 {
			other := g.order(x.Sig)
			if err := paths.Check(x, other); err != api.ErrOrder {
				t.Fatalf("Check(%v, %v): error %d, but Find finds none", x.Eqns, other, err)
			}
		}
	}
	if found[1] < 30 || found[2] < 30 || found[3] < 30 || found[4] < 5 || not < 100 {
		t.Errorf("found by operations: %v; not found: %d", found, not)
	}
}

// P6.4, P6.9: how many operations can occur, and where; and orders for many of them.
func TestMany(t *testing.T) {
	s := signature()
	for n := range 256 {
		s.Ops = append(s.Ops, o(string([]byte{'a' + byte(n/16), 'a' + byte(n%16)}), n%3))
	}
	unary := func(n int, x api.Term) api.Term { return op(3*n+1, x) }
	x := v(0)
	four := eq(1, unary(40, unary(30, x)), unary(20, unary(10, x)))
	for i, c := range []struct {
		l    []api.Eqn
		want api.Errno
	}{
		{[]api.Eqn{four}, api.OK}, {[]api.Eqn{four, eq(1, unary(40, x), x), eq(1, unary(30, x), x, unary(10, x), unary(20, x))}, api.OK}, {[]api.Eqn{four, eq(1, unary(40, x), unary(50, x))}, api.ErrLimit}, {[]api.Eqn{four, eq(1, unary(50, x), x)}, api.ErrLimit}, {[]api.Eqn{four, eq(1, unary(40, x), x, op(0), x)}, api.ErrLimit}, {[]api.Eqn{four, eq(1, unary(40, x), x, x, x, x, op(255))}, api.ErrLimit}, {[]api.Eqn{eq(1, unary(1, x), unary(1, x)), eq(1, unary(2, unary(3, unary(4, unary(5, x)))), x)}, api.ErrLimit},
	} {
		y := data(s, c.l...)
		o, is, err := paths.Find(y)
		if err != c.want || is != (err == api.OK) || !is && !same(o, api.Order{}) {
			t.Errorf("%d: Find: %v, %v, error %d; want %d", i, o, is, err, c.want)
		}
		if want, _ := first(data(s, c.l[:1]...)); err == api.OK && i == 0 && !same(o, want) {
			t.Errorf("%d: Find: %v; want %v", i, o, want)
		}
		checkGuess(t, y)
	}
	chain, circle := data(s), data(s)
	for n := range 84 {
		chain.Eqns = append(chain.Eqns, eq(1, unary(n, x), unary(n+1, unary(n+1, x))))
		circle.Eqns = append(circle.Eqns, eq(1, unary(n, x), unary((n+1)%84, x)))
	}
	checkGuess(t, chain)
	if checkGuess(t, circle) {
		t.Error("Guess of a circle finds an order")
	}
	slices.Reverse(chain.Eqns)
	checkGuess(t, chain)
}

// checkGuess checks what Guess returns of a type, and returns whether that is an order.
func checkGuess(t *testing.T, x api.Type) bool {
	t.Helper()
	o, is, err := paths.Guess(x)
	if err != api.OK || !is && !same(o, api.Order{}) || is && (!isOrder(o, len(x.Sig.Ops)) || !checkBlame(t, x, o)) {
		t.Errorf("Guess of %v: %v, %v, error %d", x.Eqns, o, is, err)
	}
	return is
}

// P6.9: Guess of types with more operations.
func TestGuess(t *testing.T) {
	found := 0
	for seed := range int64(150) {
		g := newMaker(seed + 800)
		x := g.equations(5+g.r.Intn(3), 5)
		if !checkGuess(t, x) {
			continue
		}
		found++
		if len(occurring(x)) > 4 {
			continue
		}
		if _, is, err := paths.Find(x); !is || err != api.OK {
			t.Fatalf("of %v, Guess finds an order, Find: %v, error %d", x.Eqns, is, err)
		}
	}
	t.Logf("Guess found %d of 150", found)
}
