package parse_test

import (
	"math/rand"
	"slices"
	"strings"
	"testing"

	"madrigal/api"
	"madrigal/parse"
)

// wrap makes the tree of a text that declares operations, with an expression.
func wrap(ops []api.Mix, n api.Node) api.Node {
	declared := list()
	for _, o := range ops {
		s, _ := parse.MixName(o)
		declared.L = append(declared.L, named(api.NdOp, s, list(), name("s")))
		declared.L[len(declared.L)-1].N = 4*o.Prio + o.Side
	}
	data := named(api.NdType, "t", list(), list(), list(), list(), list(), declared, list())
	main := node(api.NdExit, node(api.NdGive, n))
	return named(api.NdSpec, "x", list(), list(), node(api.NdFunc), list(data), main, list())
}

// P2.10: Check accepts what Parse returns, with or without places.
func TestCheckOfReadTrees(t *testing.T) {
	made(2400, func(r reading, text string, want api.Node) {
		n := mustRead(t, r, text)
		err := api.ErrTree
		if r.what == "Parse" {
			err = api.OK
		}
		if parse.Check(n) != err || parse.Check(parse.Bare(n)) != err {
			t.Fatalf("Check of the tree of %q: error %d", text, parse.Check(n))
		}
	})
}

// waysIn returns the ways to all nodes of a tree.
func waysIn(n api.Node) [][]int {
	l := [][]int{nil}
	for i, x := range n.L {
		for _, way := range waysIn(x) {
			l = append(l, append([]int{i}, way...))
		}
	}
	return l
}

// changed returns a tree in which a node is changed.
func changed(n api.Node, way []int, change func(*api.Node)) api.Node {
	n.L = slices.Clone(n.L)
	if len(way) == 0 {
		change(&n)
	} else {
		n.L[way[0]] = changed(n.L[way[0]], way[1:], change)
	}
	return n
}

// P2.10: a node of another kind with another shape, a list with a node too many, and the like.
func TestCheckOfChangedTrees(t *testing.T) {
	text := "specification x [a] (n, m : nat) : exit (nat) library bool, b endlib type nat is bool, c formalsorts f formalopns g : f -> f formaleqns ofsort f g(g) = g; sorts nat opns 0 : -> nat _+_ (5 left), add : nat, nat -> nat eqns forall x, y : nat ofsort nat 0 + x = x; x = 0, y = x => add(x, x) = 0 of nat; endtype " +
		"type m is nat renamedby sortnames k for nat opnnames _#_ for _+_ endtype type o is m actualizedby nat, b using sortnames k for nat opnnames a for b endtype behaviour hide c in p [a] (0 + n) >> accept v : nat in (a; stop [] i; stop |[a, c]| wait 3; exit (any nat, 3 + n)) " +
		"where process p [g] (x, y : nat) : noexit := g !x ?z, u : nat [x = y] {1..3}; stop [> [x = y] -> let v : nat = x in choice w : nat [] choice h in [g, c] [] h {2..}; stop where type e is endtype process q : noexit := stop endproc endproc endspec"
	n, at, err := parse.Parse(text)
	if err != api.OK || parse.Check(n) != api.OK {
		t.Fatal(at, err)
	}
	kinds := []int{0, api.NdSpec, api.NdProc, api.NdLib, api.NdType, api.NdRename, api.NdActual, api.NdName, api.NdList, api.NdDecl, api.NdFunc, api.NdOp, api.NdEqns, api.NdEqn, api.NdEq, api.NdTo, api.NdStop, api.NdExit, api.NdPre, api.NdChoice, api.NdPar, api.NdHide, api.NdEnable, api.NdDisable, api.NdGuard, api.NdLet, api.NdSome, api.NdPick, api.NdCall, api.NdWait, api.NdGive, api.NdTake, api.NdAny, api.NdWin, api.NdBind, api.NdGate, api.NdApp, api.NdOf, 16, 34, 46, 52, -1}
	refuse := func(way []int, what string, change func(*api.Node)) {
		t.Helper()
		if parse.Check(changed(n, way, change)) != api.ErrTree {
			t.Errorf("Check accepts %s at %v", what, way)
		}
	}
	r := newRandom()
	for _, way := range waysIn(n) {
		var at api.Node
		changed(n, way, func(x *api.Node) { at = *x })
		for range 12 {
			if kind := kinds[r.Intn(len(kinds))]; kind != at.Kind && !alike(kind, at) {
				refuse(way, "another kind", func(x *api.Node) { x.Kind = kind })
			}
		}
		if at.Kind != api.NdOp && at.Kind != api.NdWait {
			refuse(way, "a number", func(x *api.Node) { x.N += 100 })
		}
		refuse(way, "a number below 0", func(x *api.Node) { x.N = -1 })
		refuse(way, "a name that is none", func(x *api.Node) { x.S += ";" })
		refuse(way, "a long name", func(x *api.Node) { x.S += strings.Repeat("a", 33) })
		refuse(way, "a list too many", func(x *api.Node) { x.L = append(slices.Clone(x.L), list(list())) })
		refuse(way, "a node too many", func(x *api.Node) { x.L = append(slices.Clone(x.L), node(99)) })
		if len(at.L) > 0 && at.Kind != api.NdList && at.Kind != api.NdFunc && at.Kind != api.NdExit && at.Kind != api.NdLib && !(at.Kind == api.NdApp && (at.S == "add" || at.S == "g")) {
			refuse(way, "a node too few", func(x *api.Node) { x.L = x.L[1:] })
			refuse(way, "no nodes", func(x *api.Node) { x.L = nil })
		}
	}
}

// alike reports whether a node has the shape of another kind, too.
func alike(kind int, n api.Node) bool {
	both := func(a, b int) bool { return kind == a && n.Kind == b || kind == b && n.Kind == a }
	return both(api.NdChoice, api.NdDisable) || len(n.L) == 0 && both(api.NdStop, api.NdExit) || len(n.L) == 1 && both(api.NdApp, api.NdOf)
}

// P2.2, P2.10: trees that are not read from a text.
func TestCheckOfTrees(t *testing.T) {
	plain := func(i int, l api.Node) api.Node {
		n := wrap(nil, app("a"))
		n.L[3].L[0].L[i] = l
		return n
	}
	where := func(main api.Node, l ...api.Node) api.Node {
		return named(api.NdSpec, "x", list(), list(), node(api.NdFunc), list(), main, list(l...))
	}
	op := func(s string, n int) api.Node {
		return api.Node{Kind: api.NdOp, S: s, N: n, L: []api.Node{list(), name("s")}}
	}
	to := func(a, b string) api.Node { return node(api.NdTo, name(a), name(b)) }
	rename := func(l ...api.Node) api.Node {
		return where(stop(), named(api.NdRename, "t", name("a"), list(), list(l...)))
	}
	action := func(gate string, offers, conds, windows api.Node) api.Node {
		return where(node(api.NdPre, name(gate), offers, conds, windows, stop()))
	}
	pick := func(l ...api.Node) api.Node { return where(node(api.NdPick, list(l...), stop())) }
	give := list(node(api.NdGive, app("a")))
	cond := list(eq(app("a"), app("b")))
	win := func(n int, l ...string) api.Node {
		return list(numbered(api.NdWin, n, names(strings.Join(l, " ")).L...))
	}
	for i, x := range []struct {
		n  api.Node
		ok bool
	}{
		{api.Node{}, false}, {stop(), false}, {app("a"), false}, {where(stop()), true}, {where(app("a")), false}, {where(list()), false}, {where(stop(), stop()), false}, {where(stop(), named(api.NdLib, "", name("a"))), false},
		{plain(0, names("a b")), true}, {plain(0, names("a stop")), false}, {plain(0, names("a i")), false}, {plain(0, names("a +")), false}, {plain(0, names("a 1")), false}, {plain(0, names("a a_b")), false}, {plain(0, list(name(""))), false}, {plain(0, list(name("a b"))), false}, {plain(0, list(name("(**)a"))), false},
		{plain(0, list(name(strings.Repeat("a", 32)))), true}, {plain(0, list(name(strings.Repeat("a", 33)))), false},
		{plain(5, list(op("a", 36))), true}, {plain(5, list(op("a", 21))), false}, {plain(5, list(op("a", 0))), false}, {plain(5, list(op("0", 36))), true}, {plain(5, list(op("00", 36))), false}, {plain(5, list(op("2147483647", 36))), true}, {plain(5, list(op("2147483648", 36))), false}, {plain(5, list(op("-1", 36))), false}, {plain(5, list(op("=", 36))), false}, {plain(5, list(op("==", 36))), true}, {plain(5, list(op("", 36))), false},
		{plain(5, list(op("_+_", 4))), true}, {plain(5, list(op("_+_", 38))), true}, {plain(5, list(op("_+_", 39))), false}, {plain(5, list(op("_+_", 3))), false}, {plain(5, list(op("_+_", 40))), false}, {plain(5, list(op("_+_", -4))), false}, {plain(5, list(op("_+_", 7))), false},
		{plain(5, list(op("_", 36))), false}, {plain(5, list(op("__", 36))), false}, {plain(5, list(op("a__b", 36))), false}, {plain(5, list(op("a_1", 36))), false}, {plain(5, list(op("_stop", 36))), false}, {plain(5, list(op("a b_", 36))), false}, {plain(5, list(op("x_b_c_d_e_f_g_h", 36))), true}, {plain(5, list(op("x_b_c_d_e_f_g_h_i'", 36))), false},
		{plain(5, list(op("_+_", 36), op("_+_", 36))), true}, {plain(5, list(op("_+_", 36), op("_+_", 37))), false}, {plain(5, list(op("_+_", 36), op("_+", 36))), false}, {plain(5, list(op("_+_", 36), op("+_", 36))), true}, {plain(5, list(op("a", 36), op("a", 36))), true},
		{plain(6, list(named(api.NdEqns, "s", list(), list()))), true}, {plain(6, list(named(api.NdEqns, "s", list(), list(node(api.NdEqn, list(), eq(app("a"), app("b"))))))), true}, {plain(6, list(named(api.NdEqns, "s", list(), list(eq(app("a"), app("b")))))), false},
		{rename(to("a", "b"), to("_c", "d")), false}, {rename(to("a", "b"), to("c", "d")), true}, {rename(to("a", "b"), to("1", "d")), true}, {rename(to("a", "_b_"), to("c", "d")), false}, {rename(to("a", "_b_"), to("_c", "d")), true}, {rename(to("a", "_b_"), to("1", "d")), true}, {rename(to("1", "_")), false}, {rename(to("a", "1"), to("_c", "d")), true},
		{action("a", list(), list(), list()), true}, {action("i", list(), list(), list()), true}, {action("stop", list(), list(), list()), false}, {action("a", list(), cond, list()), false}, {action("a", give, cond, list()), true}, {action("i", give, cond, list()), true},
		{action("a", list(), list(), win(1, "3")), true}, {action("a", list(), list(), win(2, "3")), true}, {action("a", list(), list(), win(3, "3", "1")), true}, {action("a", list(), list(), win(1, "3", "1")), false}, {action("a", list(), list(), win(3, "3")), false}, {action("a", list(), list(), win(0, "3")), false}, {action("a", list(), list(), win(4, "3", "4")), false}, {action("a", list(), list(), win(1, "03")), false}, {action("a", list(), list(), win(1, "x")), false}, {action("a", list(), list(), win(1, "-1")), false}, {action("a", list(), list(), win(1, "+1")), false},
		{action("a", list(), list(), list(win(1, "3").L[0], win(1, "3").L[0])), false},
		{where(numbered(api.NdWait, 0, stop())), true}, {where(numbered(api.NdWait, 2147483647, stop())), true}, {where(numbered(api.NdWait, 2147483648, stop())), false}, {where(numbered(api.NdWait, -1, stop())), false},
		{where(named(api.NdPar, "||", list(), stop(), stop())), true}, {where(named(api.NdPar, "||", names("a"), stop(), stop())), false}, {where(named(api.NdPar, "|[", list(), stop(), stop())), false}, {where(named(api.NdPar, "|[", names("a"), stop(), stop())), true}, {where(named(api.NdPar, "[]", list(), stop(), stop())), false}, {where(named(api.NdPar, "", list(), stop(), stop())), false}, {where(named(api.NdPar, "]|", list(), stop(), stop())), false},
		{where(node(api.NdHide, names("a"), stop())), true}, {where(node(api.NdHide, list(), stop())), false}, {where(node(api.NdGuard, list(), stop())), false}, {where(node(api.NdGuard, cond, stop())), true}, {where(node(api.NdLet, list(), stop())), false}, {where(node(api.NdSome, list(), stop())), false}, {where(node(api.NdSome, decls("a", "s"), stop())), true},
		{pick(), false}, {pick(named(api.NdGate, "a", names("b"))), true}, {pick(named(api.NdGate, "a", names("b c")), named(api.NdGate, "d", names("e"))), true}, {pick(named(api.NdGate, "a")), false}, {pick(named(api.NdGate, "a", list())), false}, {pick(named(api.NdGate, "a", name("b"))), false}, {pick(named(api.NdGate, "a", name("b"), name("c"))), false}, {pick(named(api.NdGate, "a", names("b"), name("c"))), false}, {pick(named(api.NdGate, "a", names("b"), names("c"))), false}, {pick(named(api.NdGate, "a", list(names("b")))), false},
		{where(node(api.NdExit)), true}, {where(node(api.NdExit, app("a"))), false}, {where(node(api.NdExit, node(api.NdAny, name("a")))), true}, {where(node(api.NdExit, node(api.NdAny))), false}, {where(node(api.NdExit, node(api.NdGive))), false},
		{named(api.NdSpec, "x", list(), list(), numbered(api.NdFunc, 1), list(), stop(), list()), true}, {named(api.NdSpec, "x", list(), list(), numbered(api.NdFunc, 2), list(), stop(), list()), false}, {named(api.NdSpec, "x", list(), list(), node(api.NdFunc, name("a")), list(), stop(), list()), false}, {named(api.NdSpec, "x", list(), list(), node(api.NdFunc), list(named(api.NdProc, "p", list(), list(), node(api.NdFunc), stop(), list())), stop(), list()), false},
		{named(api.NdSpec, "endspec", list(), list(), node(api.NdFunc), list(), stop(), list()), false}, {where(stop(), named(api.NdProc, "p", list(), list(), node(api.NdFunc), stop(), list())), true}, {named(api.NdSpec, "x", list(), list(), node(api.NdFunc), list(named(api.NdLib, "")), stop(), list()), false},
		{wrap(table(), app("+")), true}, {wrap(table(), app("-")), false}, {wrap(table(), app("if")), false}, {wrap(table(), app("if", app("a"))), false}, {wrap(table(), app("then", app("a"))), true}, {wrap(table(), app("_+_", app("a"))), false}, {wrap(table(), app("_+_", app("a"), app("b"))), true}, {wrap(table(), app("_+_", app("a"), app("b"), app("c"))), false}, {wrap(table(), app("_#_", app("a"), app("b"))), false},
		{wrap(table(), app("0")), true}, {wrap(table(), app("00")), false}, {wrap(table(), app("0", app("a"))), false}, {wrap(table(), app("")), false}, {wrap(table(), of("s", app("a"))), true}, {wrap(table(), of("+", app("a"))), false}, {wrap(table(), node(api.NdOf, app("a"))), false}, {wrap(table(), named(api.NdOf, "s")), false}, {wrap(table(), app("_<_", app("_<_", app("a"), app("b")), app("c"))), true}, {wrap(table(), app("a", list())), false}, {wrap(table(), name("a")), false},
	} {
		want := api.ErrTree
		if x.ok {
			want = api.OK
		}
		if err := parse.Check(x.n); err != want {
			t.Errorf("%d: Check(%s): error %d", i, form(x.n), err)
		}
		if _, err := parse.Ops(x.n); err != want {
			t.Errorf("%d: Ops(%s): error %d", i, form(x.n), err)
		}
	}
}

// bracketings returns how an expression can be written, with brackets around its parts or without.
func bracketings(ops []api.Mix, n api.Node) []string {
	l := []string{n.S}
	if len(n.L) > 0 || n.Kind == api.NdOf {
		l = nil
		pieces := strings.Split(n.S, "_")
		switch i := slices.IndexFunc(ops, func(o api.Mix) bool { s, _ := parse.MixName(o); return s == n.S }); {
		case n.Kind == api.NdOf:
			for _, x := range bracketings(ops, n.L[0]) {
				l = append(l, x+" of "+n.S)
			}
		case i < 0:
			l = append(l, "")
			for i, arg := range n.L {
				l = products(l, []string{[]string{n.S + "(", ","}[min(i, 1)]}, bracketings(ops, arg))
			}
			l = products(l, []string{")"})
		default:
			l = append(l, "")
			for i, piece := range pieces {
				if i > 0 {
					l = products(l, bracketings(ops, n.L[i-1]))
				}
				l = products(l, []string{piece})
			}
		}
	}
	for _, s := range slices.Clone(l) {
		l = append(l, "("+s+")")
	}
	return l
}

func products(l []string, more ...[]string) []string {
	for _, m := range more {
		var next []string
		for _, a := range l {
			for _, b := range m {
				next = append(next, a+" "+b)
			}
		}
		l = next
	}
	return l
}

// anyMixes returns operations whose parts are easily mixed up, but can be told apart.
func anyMixes(r *rand.Rand) []api.Mix {
	for {
		var l []api.Mix
		for range 1 + r.Intn(4) {
			o := api.Mix{Left: r.Intn(2) == 0, Right: r.Intn(2) == 0, Prio: 1 + r.Intn(4), Side: r.Intn(3)}
			for range 1 + r.Intn(2)*r.Intn(3) {
				o.Parts = append(o.Parts, []string{"+", "*", "t", "u"}[r.Intn(4)])
			}
			l = append(l, o)
		}
		if parse.CheckOps(l) == api.OK {
			return l
		}
	}
}

// anyTree returns a tree that looks like one of an expression.
func anyTree(r *rand.Rand, ops []api.Mix, deep int) api.Node {
	k := r.Intn(8)
	if deep == 0 {
		k = 7
	}
	switch {
	case k < 5:
		o := ops[r.Intn(len(ops))]
		n := api.Node{Kind: api.NdApp}
		n.S, _ = parse.MixName(o)
		for range strings.Count(n.S, "_") {
			n.L = append(n.L, anyTree(r, ops, deep-1))
		}
		return n
	case k == 5:
		return of("s", anyTree(r, ops, deep-1))
	case k == 6:
		return app([]string{"f", "t", "+"}[r.Intn(3)], anyTree(r, ops, deep-1))
	}
	return app([]string{"a", "0", "t", "+", "u"}[r.Intn(5)])
}

// fewest returns the number of tokens of the shortest way to put an expression in brackets with which it is read, 0 if there is none.
func fewest(t *testing.T, ops []api.Mix, n api.Node) int {
	t.Helper()
	least := 0
	for _, text := range bracketings(ops, n) {
		if got, _, err := parse.Expr(text, ops); err == api.OK && parse.Same(got, n) {
			if size := len(mustTokens(t, text)); least == 0 || size < least {
				least = size
			}
		}
	}
	return least
}

// P2.10: a tree with an expression is one of a text exactly if one of the ways to put it in brackets is read as it; and Check takes the shortest one, so that no limit refuses what is read.
func TestCheckOfExpressions(t *testing.T) {
	r := newRandom()
	right, wrong := 0, 0
	for range 3500 {
		ops := anyMixes(r)
		n := anyTree(r, ops, 3)
		if nodes, _ := parse.Size(n); nodes > 7 {
			continue
		}
		least := fewest(t, ops, n)
		text, _ := parse.Shortest(wrap(ops, n))
		if least == 0 {
			wrong++
			if err := parse.Check(wrap(ops, n)); err != api.ErrTree {
				t.Fatalf("Check of %v, %s: error %d", ops, form(n), err)
			}
			continue
		}
		right++
		if err := parse.Check(wrap(ops, n)); err != api.OK {
			t.Fatalf("Check of %v, %s: error %d", ops, form(n), err)
		}
		plain, _ := parse.Shortest(wrap(ops, app("a")))
		if size := len(mustTokens(t, text)) - len(mustTokens(t, plain)) + 1; size != least {
			t.Fatalf("%v, %s: %d tokens instead of %d: %s", ops, form(n), size, least, text)
		}
	}
	if right < 800 || wrong < 300 {
		t.Errorf("%d trees are right, %d wrong", right, wrong)
	}
}

// P2.3, P2.10: Same, and Bare.
func TestSameAndBare(t *testing.T) {
	made(900, func(r reading, text string, want api.Node) {
		n := mustRead(t, r, text)
		bare := parse.Bare(n)
		everyNode(bare, func(x api.Node) {
			if x.At != 0 || x.End != 0 {
				t.Fatalf("Bare of %q: %s", text, form(bare))
			}
		})
		if !parse.Same(n, bare) || !parse.Same(bare, n) || !equal(parse.Bare(bare), bare) {
			t.Fatalf("Bare of %q: %s", text, form(bare))
		}
		if len(bare.L) > 0 {
			bare.L[0].Kind++
			if !equal(n, want) || parse.Same(n, bare) {
				t.Fatalf("Bare of %q shares memory", text)
			}
		}
	})
	a := named(api.NdApp, "a", app("b"), app("c"))
	for i, change := range []func(*api.Node){func(n *api.Node) { n.Kind++ }, func(n *api.Node) { n.N++ }, func(n *api.Node) { n.S = "b" }, func(n *api.Node) { n.L = n.L[:1] }, func(n *api.Node) { n.L = nil }, func(n *api.Node) { n.L = append(slices.Clone(n.L), app("d")) }, func(n *api.Node) { n.L = []api.Node{n.L[1], n.L[0]} }, func(n *api.Node) { n.L = []api.Node{n.L[0], app("c", app("d"))} }} {
		b := a
		change(&b)
		if parse.Same(a, b) || parse.Same(b, a) {
			t.Errorf("%d: Same(%s, %s)", i, form(a), form(b))
		}
	}
	b := changed(a, []int{1}, func(n *api.Node) { n.At, n.End, n.L = 3, 4, []api.Node{} })
	if !parse.Same(a, b) || !parse.Same(api.Node{}, api.Node{L: []api.Node{}}) {
		t.Errorf("Same(%s, %s) is false", form(a), form(b))
	}
}

// P2.3: Size of any tree.
func TestSize(t *testing.T) {
	for _, x := range []struct {
		n           api.Node
		nodes, deep int
	}{{api.Node{}, 1, 1}, {list(), 1, 1}, {app("a", app("b")), 2, 2}, {app("f", app("a"), app("g", app("b"))), 4, 3}, {app("f", app("g", app("b")), app("a")), 4, 3}, {node(99, node(98), node(97)), 3, 2}} {
		if nodes, deep := parse.Size(x.n); nodes != x.nodes || deep != x.deep {
			t.Errorf("Size(%s): %d, %d", form(x.n), nodes, deep)
		}
	}
	n := app("a")
	for range 60000 {
		n = app("f", n)
	}
	if nodes, deep := parse.Size(n); nodes != 60001 || deep != 60001 {
		t.Errorf("Size of a deep tree: %d, %d", nodes, deep)
	}
	if parse.Check(n) != api.ErrTree || !parse.Same(n, parse.Bare(n)) {
		t.Errorf("Check, Same and Bare of a deep tree")
	}
	if op := named(api.NdOp, strings.Repeat("_", 50000000), list(), name("s")); parse.Check(node(api.NdSpec, op)) != api.ErrTree {
		t.Errorf("Check accepts a long name")
	}
}

// P2.11: Around leads to a node that has the byte, none of whose L has it.
func TestAroundOfReadTrees(t *testing.T) {
	has := func(n api.Node, at int) bool { return n.At <= at && n.End > at }
	made(900, func(r reading, text string, want api.Node) {
		n := mustRead(t, r, text)
		for at := -1; at <= len(text)+1; at++ {
			way, is := parse.Around(n, at)
			if is != has(n, at) || !is && len(way) > 0 {
				t.Fatalf("Around of %q, %d: %v, %v", text, at, way, is)
			}
			if !is {
				continue
			}
			x := n
			for _, i := range way {
				if !has(x.L[i], at) || slices.ContainsFunc(x.L[:i], func(y api.Node) bool { return has(y, at) }) {
					t.Fatalf("Around of %q, %d: %v", text, at, way)
				}
				x = x.L[i]
			}
			if slices.ContainsFunc(x.L, func(y api.Node) bool { return has(y, at) }) {
				t.Fatalf("Around of %q, %d: %v, which is not the innermost node", text, at, way)
			}
		}
	})
}

// P2.3: Around of trees that are not read from a text, and of sorts.
func TestAround(t *testing.T) {
	place := func(at, end int, l ...api.Node) api.Node { return api.Node{Kind: api.NdApp, L: l, At: at, End: end} }
	n := place(2, 9, place(2, 2), place(2, 5, place(0, 3), place(7, 9)), place(3, 5), place(6, 9, place(8, 9)))
	for _, x := range []struct {
		at  int
		way []int
		is  bool
	}{{1, nil, false}, {2, []int{1, 0}, true}, {3, []int{1}, true}, {4, []int{1}, true}, {5, nil, true}, {6, []int{3}, true}, {8, []int{3, 0}, true}, {9, nil, false}, {-1, nil, false}, {1 << 62, nil, false}} {
		if way, is := parse.Around(n, x.at); is != x.is || !slices.Equal(way, x.way) {
			t.Errorf("Around %d: %v, %v", x.at, way, is)
		}
	}
	for _, x := range []struct {
		text string
		at   int
		way  []int
	}{
		{"choice x, y : nat [] stop", 0, nil}, {"choice x, y : nat [] stop", 7, []int{0, 0}}, {"choice x, y : nat [] stop", 8, []int{0}}, {"choice x, y : nat [] stop", 10, []int{0, 1}}, {"choice x, y : nat [] stop", 14, nil}, {"choice x, y : nat [] stop", 18, nil}, {"choice x, y : nat [] stop", 21, []int{1}},
		{"choice g in [a, b] [] stop", 7, []int{0, 0}}, {"choice g in [a, b] [] stop", 12, []int{0, 0}}, {"choice g in [a, b] [] stop", 13, []int{0, 0, 0, 0}}, {"choice g in [a, b] [] stop", 14, []int{0, 0, 0}}, {"choice g in [a, b] [] stop", 16, []int{0, 0, 0, 1}}, {"choice g in [a, b] [] stop", 17, []int{0, 0}},
	} {
		b, _, _ := parse.Behaviour(x.text, nil)
		if way, is := parse.Around(b, x.at); !is || !slices.Equal(way, x.way) {
			t.Errorf("Around %d of %q: %v, %v", x.at, x.text, way, is)
		}
	}
}

// P2.2: Ops of trees.
func TestOps(t *testing.T) {
	text := "specification x : noexit type t is formalopns _+_ (5 left), a : -> s opns _+_ (5 left) : s -> s _-_, -_ : -> s endtype behaviour stop where type u is opns a : -> s _-_ (9) : -> s endtype process p : noexit := stop where type v is opns b_c : -> s -_ (9) : -> s if_then_ (1 right) : -> s endtype endproc type w is opns _~ (2 left) : -> s endtype endspec"
	want := []api.Mix{
		{Parts: []string{"+"}, Left: true, Right: true, Prio: 5, Side: api.SideLeft},
		{Parts: []string{"-"}, Left: true, Right: true, Prio: 9},
		{Parts: []string{"-"}, Right: true, Prio: 9},
		{Parts: []string{"b", "c"}, Prio: 9},
		{Parts: []string{"if", "then"}, Right: true, Prio: 1, Side: api.SideRight},
		{Parts: []string{"~"}, Left: true, Prio: 2, Side: api.SideLeft},
	}
	n, at, err := parse.Parse(text)
	if err != api.OK {
		t.Fatal(at, err)
	}
	ops, err := parse.Ops(n)
	if err != api.OK || !slices.EqualFunc(ops, want, sameMix) {
		t.Errorf("Ops: %v, error %d", ops, err)
	}
	if ops, err := parse.Ops(wrap(nil, app("a"))); err != api.OK || len(ops) != 0 {
		t.Errorf("Ops of a tree without operations: %v, error %d", ops, err)
	}
	for _, n := range []api.Node{{}, stop(), app("a"), wrap(nil, app("_+_", app("a"), app("b")))} {
		if ops, err := parse.Ops(n); err != api.ErrTree || len(ops) != 0 {
			t.Errorf("Ops(%s): %v, error %d", form(n), ops, err)
		}
	}
}

func sameMix(a, b api.Mix) bool {
	return slices.Equal(a.Parts, b.Parts) && a.Left == b.Left && a.Right == b.Right && a.Prio == b.Prio && a.Side == b.Side
}

// P2.3, P2.10: what a text shares, and its limits: the shortest text of a tree counts.
func TestCheckOfLongTexts(t *testing.T) {
	many := func(n int) string { return strings.Repeat("a,", n-1) + "a" }
	text := func(inner string) string {
		return "specification x:noexit type t is " + inner + " endtype behaviour stop endspec"
	}
	for _, inner := range []string{
		"opns " + many(200) + ":" + many(280) + "->s",
		"eqns forall " + many(9000) + ":s ofsort s",
		"opns " + strings.Repeat("a:->s ", 4500),
		"eqns ofsort s " + strings.Repeat("a=b;", 4500),
	} {
		n, at, err := parse.Parse(text(inner))
		if err != api.OK || parse.Check(n) != api.OK {
			t.Fatalf("%.100q: byte %d, error %d, Check %d", inner, at, err, parse.Check(n))
		}
	}
	base, _, _ := parse.Parse(text("eqns ofsort s"))
	rest := len(text("eqns forall :s ofsort s"))
	long := decls(strings.Repeat(strings.Repeat("a", 32)+" ", 3000), "s").L
	for _, x := range []struct {
		what string
		l    []api.Node
		err  api.Errno
	}{
		{"20000 tokens", decls(strings.Repeat("a ", 9992), "s").L, api.OK},
		{"20002 tokens", decls(strings.Repeat("a ", 9993), "s").L, api.ErrTree},
		{"100000 bytes", filled(long, 100000-rest), api.OK},
		{"100001 bytes", filled(long, 100001-rest), api.ErrTree},
	} {
		n := changed(base, []int{3, 0, 6, 0, 0}, func(m *api.Node) { m.L = x.l })
		if err := parse.Check(n); err != x.err {
			t.Errorf("%s: error %d", x.what, err)
		}
	}
}

// filled returns names that take so many bytes, with commas between.
func filled(l []api.Node, size int) []api.Node {
	l = slices.Clone(l)
	size -= 33*len(l) - 1
	for size > 34 {
		l = append(l, l[0])
		size -= 33
	}
	for size > 1 {
		more := min(size, 12)
		if size-more == 1 {
			more--
		}
		l = append(l, named(api.NdDecl, strings.Repeat("a", more-1), name("s")))
		size -= more
	}
	return l
}

// P2.10: the text by which Check looks at a tree is not longer than the one of which the tree was read, so that no limit refuses it.
func TestShortestText(t *testing.T) {
	shorter := func(text string, n api.Node) {
		short, ok := parse.Shortest(n)
		tight, _ := joined(t, mustTokens(t, text))
		if !ok || len(short) > len(tight) || len(mustTokens(t, short)) > len(mustTokens(t, tight)) {
			t.Fatalf("%q is written as %q", tight, short)
		}
	}
	made(1500, func(r reading, text string, want api.Node) {
		if r.what == "Parse" {
			shorter(text, want)
		}
	})
	r := newRandom()
	rules := grammar()
	for range 800 {
		l := derive(r, rules, item{kind: itRule, s: "Text"}, 6+r.Intn(6))
		if len(l) > 400 {
			continue
		}
		text, _ := joined(t, l)
		if n, _, err := parse.Parse(text); err == api.OK {
			shorter(text, n)
		}
	}
}
