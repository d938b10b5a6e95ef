package show_test

import (
	"math/rand"
	"slices"
	"strings"
	"testing"

	"madrigal/api"
	"madrigal/parse"
	"madrigal/show"
)

// shown is a tree, and the text that is written of it.
type shown struct {
	n    api.Node
	want string
}

func checkExprs(t *testing.T, ops []api.Mix, l []shown) {
	t.Helper()
	for _, x := range l {
		s, err := show.Expr(x.n, ops)
		if err != api.OK || s != x.want {
			t.Errorf("Expr(%s): %q, error %d; want %q", written(x.n), s, err, x.want)
		}
		n, _, err := parse.Expr(x.want, ops)
		if err != api.OK || !parse.Same(n, x.n) {
			t.Errorf("%q is read as %s, error %d; want %s", x.want, written(n), err, written(x.n))
		}
		checkLeast(t, x.want, parse.Expr, ops, x.n)
	}
}

// P3.1, P3.5, P3.6: expressions by the operations of the chapter's examples.
func TestExpressions(t *testing.T) {
	a, b, c, d := app("a"), app("b"), app("c"), app("d")
	two := func(s string, x, y api.Node) api.Node { return app("_"+s+"_", x, y) }
	plus := func(x, y api.Node) api.Node { return two("+", x, y) }
	minus := func(x api.Node) api.Node { return app("-_", x) }
	when := func(x, y, z api.Node) api.Node { return app("if_then_else_", x, y, z) }
	checkExprs(t, table(), []shown{
		{plus(a, plus(b, c)), "a+(b+c)"}, {plus(plus(a, b), c), "a+b+c"}, {plus(plus(a, b), plus(c, d)), "a+b+(c+d)"},
		{two("^", two("^", a, b), c), "(a^b)^c"}, {two("^", a, two("^", b, c)), "a^b^c"},
		{two("<", two("<", a, b), c), "(a<b)<c"}, {two("<", a, two("<", b, c)), "a<(b<c)"},
		{two("*", plus(a, b), c), "(a+b)*c"}, {plus(a, two("*", b, c)), "a+b*c"}, {plus(two("*", a, b), c), "a*b+c"}, {two("*", a, plus(b, c)), "a*(b+c)"}, {two("^", two("*", a, b), plus(c, d)), "(a*b)^(c+d)"}, {plus(two("<", a, b), c), "(a<b)+c"}, {two("<", plus(a, b), c), "a+b<c"},
		{plus(minus(a), b), "-a+b"}, {minus(plus(a, b)), "-(a+b)"}, {two("*", minus(a), b), "(-a)*b"}, {minus(two("*", a, b)), "-a*b"}, {minus(two("^", a, b)), "-a^b"}, {two("^", minus(a), b), "(-a)^b"}, {two("^", a, minus(b)), "a^(-b)"}, {two("*", a, minus(b)), "a*(-b)"}, {plus(a, minus(b)), "a+ -b"}, {minus(minus(a)), "- -a"}, {plus(a, minus(plus(b, c))), "a+ -(b+c)"},
		{plus(plus(a, minus(b)), c), "a+ -b+c"}, {two("<", plus(a, minus(b)), c), "a+ -b<c"}, {plus(a, minus(two("*", b, c))), "a+ -b*c"}, {two("*", plus(a, minus(b)), c), "(a+ -b)*c"},
		{app("_%", a), "a%"}, {app("_%", app("_%", a)), "(a%)%"}, {app("_%", plus(a, b)), "(a+b)%"}, {plus(a, app("_%", b)), "a+b%"}, {app("_%", minus(a)), "(-a)%"}, {minus(app("_%", a)), "-a%"}, {plus(app("_%", a), b), "a% +b"}, {app("_%", app("s", app("0"))), "s(0)%"},
		{of("nat", plus(a, b)), "(a+b)of nat"}, {plus(of("nat", a), b), "a of nat+b"}, {plus(a, of("nat", b)), "a+b of nat"}, {minus(of("nat", a)), "-a of nat"}, {of("nat", minus(a)), "(-a)of nat"}, {of("b", of("a", a)), "a of a of b"}, {of("nat", app("_%", a)), "a%of nat"}, {app("_%", of("nat", a)), "a of nat%"}, {plus(a, of("nat", app("_%", b))), "a+b%of nat"}, {of("nat", app("f", a)), "f(a)of nat"}, {two("^", a, of("nat", minus(b))), "a^(-b)of nat"},
		{when(two("<", a, b), a, plus(b, c)), "if a<b then a else b+c"}, {plus(when(a, b, c), d), "(if a then b else c)+d"}, {plus(a, when(b, c, d)), "a+(if b then c else d)"}, {when(a, b, when(b, c, d)), "if a then b else if b then c else d"}, {when(when(a, b, c), when(b, c, d), a), "if if a then b else c then if b then c else d else a"}, {minus(when(a, b, c)), "-(if a then b else c)"}, {of("s", when(a, b, c)), "(if a then b else c)of s"}, {app("_%", when(a, b, c)), "(if a then b else c)%"},
		{app("f", plus(a, b), app("7"), when(a, b, c)), "f(a+b,7,if a then b else c)"}, {app("f", app("f", app("f", a))), "f(f(f(a)))"}, {app("0"), "0"}, {app("2147483647"), "2147483647"},
		{app("+"), "+"}, {plus(app("+"), app("+")), "+ + +"}, {app("+", a), "+(a)"}, {app("*", app("*")), "*( *)"}, {app("then"), "then"}, {when(app("then"), app("else", a), b), "if then then else(a)else b"}, {app("left"), "left"}, {app("a'"), "a'"},
	})
}

// P3.1, P3.5, P3.6: operations that are closed, that share parts, and that have other sides.
func TestOtherOperations(t *testing.T) {
	a, b, c := app("a"), app("b"), app("c")
	ops := []api.Mix{
		{Parts: []string{"<", ">"}, Prio: 1},
		{Parts: []string{"^"}, Left: true, Right: true, Prio: 9, Side: api.SideRight},
		{Parts: []string{"*"}, Left: true, Right: true, Prio: 9},
		{Parts: []string{"#", "#"}, Left: true, Prio: 4, Side: api.SideLeft},
		{Parts: []string{"#"}, Right: true, Prio: 9},
		{Parts: []string{"@"}, Left: true, Prio: 3},
		{Parts: []string{"~"}, Right: true, Prio: 4, Side: api.SideLeft},
		{Parts: []string{"&"}, Left: true, Right: true, Prio: 4, Side: api.SideRight},
		{Parts: []string{"or"}, Left: true, Right: true, Prio: 4, Side: api.SideLeft},
	}
	or := func(x, y api.Node) api.Node { return app("_or_", x, y) }
	and := func(x, y api.Node) api.Node { return app("_&_", x, y) }
	checkExprs(t, ops, []shown{
		{app("<_>", a), "<a>"}, {app("_*_", a, app("<_>", b)), "a* <b>"}, {app("_*_", app("<_>", a), b), "<a> *b"}, {app("<_>", app("<_>", a)), "< <a> >"}, {of("s", app("<_>", a)), "<a>of s"}, {app("<_>", or(a, b)), "<a or b>"}, {app("_^_", app("<_>", or(a, b)), c), "<a or b> ^c"},
		{app("_^_", a, app("#_", b)), "a^ #b"}, {app("_*_", a, app("#_", b)), "a*(#b)"}, {app("#_", app("_^_", a, b)), "#a^b"}, {app("_^_", app("#_", a), b), "(#a)^b"}, {app("#_", app("#_", a)), "# #a"},
		{app("_#_#", a, app("_@", b)), "a#b@ #"}, {app("_#_#", app("_#_#", a, app("_@", b)), app("_@", c)), "a#b@ # #c@ #"}, {app("~_", app("_#_#", a, app("_@", b))), "~a#b@ #"}, {app("_#_#", app("~_", a), app("_@", b)), "(~a)#b@ #"}, {app("_@", app("~_", a)), "~a@"}, {app("~_", app("_@", a)), "~(a@)"}, {app("_@", app("_@", a)), "(a@)@"},
		{or(or(a, b), c), "a or b or c"}, {or(a, or(b, c)), "a or(b or c)"}, {and(a, and(b, c)), "a&b&c"}, {and(and(a, b), c), "(a&b)&c"}, {or(and(a, b), c), "(a&b)or c"}, {and(or(a, b), c), "(a or b)&c"}, {or(a, and(b, c)), "a or(b&c)"}, {and(a, or(b, c)), "a&b or c"}, {or(and(a, app("~_", b)), c), "(a& ~b)or c"}, {and(a, app("~_", or(b, c))), "a& ~b or c"},
		{app("_@", and(a, b)), "a&b@"}, {app("_@", or(a, app("~_", b))), "a or(~b)@"},
	})
}

// P3.1: what is no tree of an expression.
func TestWrongExpressions(t *testing.T) {
	a := app("a")
	for _, n := range []api.Node{
		{}, stop(), name("a"), list(a), app(""), app("_+_"), app("_+_", a), app("_+_", a, a, a), app("_#_", a, a), app("_"), app("if"), app("-"), app("if", a), app("-", a), app("if_then_else_", a, a), app("if_then_else", a, a, a),
		app("07"), app("00"), app("-1"), app("2147483648"), app("99999999999999999999"), app("0", a), app("7", a), app("1a"), app("a b"), app(" a"), app("a+"), app("stop"), app("i"), app("of"), app("="), app("->"), app("("), app(","), app(strings.Repeat("a", 33)), app(strings.Repeat("+", 33)),
		of("+", a), of("", a), of("0", a), of("sorts", a), of("a b", a), node(api.NdOf, a), named(api.NdOf, "s"), named(api.NdOf, "s", a, a),
		{Kind: api.NdApp, S: "a", N: 1}, {Kind: api.NdOf, S: "s", N: 1, L: []api.Node{a}}, {Kind: api.NdApp, S: "_%", N: -1, L: []api.Node{a}},
	} {
		for _, x := range []api.Node{n, app("f", a, n), app("_+_", n, a), app("_+_", a, n), app("-_", n), app("if_then_else_", a, n, a), of("s", n), app("_%", app("_%", n))} {
			if s, err := show.Expr(x, table()); s != "" || err != api.ErrShown {
				t.Errorf("Expr(%s): %q, error %d", written(x), s, err)
			}
		}
	}
	placed := app("f", a)
	placed.At, placed.End, placed.L[0].At, placed.L[0].End = -3, 1<<60, 7, 2
	if s, err := show.Expr(placed, nil); s != "f(a)" || err != api.OK {
		t.Errorf("Expr with places: %q, error %d", s, err)
	}
}

// P3.1: operations that cannot be told apart are found ahead of what is no tree.
func TestWrongOperations(t *testing.T) {
	plus := table()[0]
	for _, ops := range [][]api.Mix{
		{plus, plus}, {{}}, {{Parts: []string{"+"}, Prio: 1}}, {{Parts: []string{"+"}, Left: true}}, {{Parts: []string{"+"}, Left: true, Prio: 10}}, {{Parts: []string{"="}, Left: true, Prio: 1}}, {{Parts: []string{"1"}, Left: true, Prio: 1}}, {{Parts: []string{""}, Left: true, Prio: 1}}, {{Parts: []string{"+"}, Left: true, Prio: 1, Side: 3}}, {plus, {Parts: []string{"+", "+"}, Left: true, Prio: 1}},
	} {
		for _, n := range []api.Node{app("a"), stop(), {}} {
			if s, err := show.Expr(n, ops); s != "" || err != api.ErrMix {
				t.Errorf("Expr by %v: %q, error %d", ops, s, err)
			}
			if s, err := show.Behaviour(n, ops); s != "" || err != api.ErrMix {
				t.Errorf("Behaviour by %v: %q, error %d", ops, s, err)
			}
		}
	}
}

// deep returns a tree with so many nodes within each other.
func deep(n int) api.Node {
	x := app("a")
	for range n - 1 {
		x = app("f", x)
	}
	return x
}

// many returns so many nodes.
func many(n api.Node, count int) []api.Node { return slices.Repeat([]api.Node{n}, count) }

// P3.1: limits of expressions.
func TestLimitsOfExpressions(t *testing.T) {
	long := app(strings.Repeat("a", 32))
	cyclic := app("f", app("a"))
	cyclic.L[0] = cyclic
	wide := app("g", many(app("f", many(app("f", many(app("f", many(app("a"), 100)...), 100)...), 100)...), 100)...)
	for _, x := range []struct {
		what string
		n    api.Node
		size int
		err  api.Errno
	}{
		{"400 deep", deep(400), 1199 - 1, api.OK},
		{"401 deep", deep(401), 0, api.ErrShown},
		{"20000 tokens", app("f", many(app("a"), 9999)...), 20000, api.OK},
		{"20001 tokens", app("f", append(many(app("a"), 9998), app("_%", app("b")))...), 0, api.ErrLimit},
		{"60000 nodes", app("f", many(app("a"), 59999)...), 0, api.ErrLimit},
		{"60001 nodes", app("f", many(app("a"), 60000)...), 0, api.ErrShown},
		{"100000 bytes", app("f", append(many(long, 3030), app("abcdefg"))...), 100000, api.OK},
		{"100001 bytes", app("f", append(many(long, 3030), app("abcdefgh"))...), 0, api.ErrLimit},
		{"100001 bytes, and a wrong node", app("f", append(many(long, 3031), app("stop"))...), 0, api.ErrShown},
		{"a cycle", cyclic, 0, api.ErrShown},
		{"a hundred million nodes", wide, 0, api.ErrShown},
	} {
		if s, err := show.Expr(x.n, table()); len(s) != x.size || err != x.err {
			t.Errorf("%s: %d bytes, error %d", x.what, len(s), err)
		}
		if s, err := show.Behaviour(node(api.NdExit, give(x.n)), table()); x.err == api.ErrShown && (s != "" || err != x.err) {
			t.Errorf("%s: %d bytes of a behaviour, error %d", x.what, len(s), err)
		}
	}
	for n := 398; n <= 399; n++ {
		want := map[int]api.Errno{398: api.OK, 399: api.ErrShown}[n]
		if _, err := show.Behaviour(node(api.NdExit, give(deep(n))), nil); err != want {
			t.Errorf("a behaviour %d deep: error %d", n+2, err)
		}
	}
}

// anyMixes returns operations whose parts are easily mixed up, but can be told apart.
func anyMixes(r *rand.Rand) []api.Mix {
	for {
		var l []api.Mix
		for range 1 + r.Intn(5) {
			m := api.Mix{Left: r.Intn(2) == 0, Right: r.Intn(2) == 0, Prio: 1 + r.Intn(4), Side: r.Intn(3)}
			if r.Intn(5) == 0 {
				m.Prio = 6 + r.Intn(4)
			}
			for range 1 + r.Intn(2)*r.Intn(3) {
				m.Parts = append(m.Parts, []string{"+", "*", "t", "u", "=="}[r.Intn(5)])
			}
			l = append(l, m)
		}
		if parse.CheckOps(l) == api.OK {
			return l
		}
	}
}

// anyExpr returns the tree of an expression, with operations often.
func anyExpr(r *rand.Rand, ops []api.Mix, deep int) api.Node {
	k := r.Intn(10)
	switch {
	case deep > 0 && k < 6 && len(ops) > 0:
		m := ops[r.Intn(len(ops))]
		n := api.Node{Kind: api.NdApp}
		n.S, _ = parse.MixName(m)
		for range strings.Count(n.S, "_") {
			n.L = append(n.L, anyExpr(r, ops, deep-1))
		}
		return n
	case deep > 0 && k == 6:
		return of([]string{"s", "nat"}[r.Intn(2)], anyExpr(r, ops, deep-1))
	case deep > 0 && k == 7:
		n := app([]string{"f", "g", "++"}[r.Intn(3)])
		for range 1 + r.Intn(2) {
			n.L = append(n.L, anyExpr(r, ops, deep-1))
		}
		return n
	}
	s := []string{"a", "b", "0", "17", "t", "+", "u", "*", "=="}[r.Intn(9)]
	if slices.ContainsFunc(ops, func(m api.Mix) bool { return !m.Left && m.Parts[0] == s }) {
		s = "c"
	}
	return app(s)
}

// end is a pair of a limit and a priority, as the chapter tells of ends.
type end struct{ limit, prio int }

// chapter is what the chapter says of expressions, word for word.
type chapter struct{ ops []api.Mix }

func (c chapter) mix(n api.Node) (api.Mix, bool) {
	for _, m := range c.ops {
		if s, _ := parse.MixName(m); n.Kind == api.NdApp && n.S == s {
			return m, true
		}
	}
	return api.Mix{}, false
}

func (c chapter) priority(n api.Node) int {
	if m, ok := c.mix(n); ok && (m.Left || m.Right) {
		return m.Prio
	}
	return 10
}

func (c chapter) bare(n api.Node, limit int) bool {
	m, ok := c.mix(n)
	return !ok || !m.Left && !m.Right || m.Prio >= limit
}

func (c chapter) ends(n api.Node) []end {
	m, ok := c.mix(n)
	if !ok || !m.Right {
		return nil
	}
	right := n.L[len(n.L)-1]
	r := c.rightLimit(m)
	if !c.bare(right, r) {
		return []end{{r, 10}}
	}
	return append([]end{{r, c.priority(right)}}, c.ends(right)...)
}

func (c chapter) rightLimit(m api.Mix) int {
	if m.Side == api.SideRight || !m.Left {
		return m.Prio
	}
	return m.Prio + 1
}

func (c chapter) bracketed(n api.Node) string { return "( " + c.text(n, 0) + " )" }

func (c chapter) text(n api.Node, limit int) string {
	if !c.bare(n, limit) {
		return c.bracketed(n)
	}
	m, ok := c.mix(n)
	switch {
	case n.Kind == api.NdOf && len(c.ends(n.L[0])) > 0:
		return c.bracketed(n.L[0]) + " of " + n.S
	case n.Kind == api.NdOf:
		return c.text(n.L[0], limit) + " of " + n.S
	case !ok && len(n.L) == 0:
		return n.S
	case !ok:
		var l []string
		for _, x := range n.L {
			l = append(l, c.text(x, 0))
		}
		return n.S + "( " + strings.Join(l, " , ") + " )"
	}
	s, args := "", n.L
	for i, part := range m.Parts {
		switch {
		case i == 0 && m.Left:
			s += c.left(m, args[0], limit)
		case i > 0:
			s += c.text(args[0], 0)
		}
		if i > 0 || m.Left {
			args = args[1:]
		}
		s += " " + part + " "
	}
	if m.Right {
		s += c.text(args[0], c.rightLimit(m))
	}
	return s
}

func (c chapter) left(m api.Mix, n api.Node, limit int) string {
	stands := func(prio int) bool { return prio > m.Prio || prio == m.Prio && m.Side == api.SideLeft }
	takes := slices.ContainsFunc(c.ends(n), func(e end) bool { return e.limit <= m.Prio && stands(e.prio) })
	if c.bare(n, limit) && stands(c.priority(n)) && !takes {
		return c.text(n, limit)
	}
	return c.bracketed(n)
}

// P3.1, P3.5, P3.6: expressions by any operations, as the chapter tells; those that can be read at all are read back.
func TestExpressionsByTheChapter(t *testing.T) {
	r := newRandom()
	back := 0
	for range 5000 {
		ops := anyMixes(r)
		n := anyExpr(r, ops, 1+r.Intn(4))
		s, err := show.Expr(n, ops)
		want := mustJoin(t, mustTokens(t, chapter{ops}.text(n, 0)))
		if err != api.OK || s != want {
			t.Fatalf("Expr(%s) by %v: %q, error %d; want %q", written(n), ops, s, err, want)
		}
		if again, _, err := parse.Expr(s, ops); err == api.OK && parse.Same(again, n) {
			back++
			checkLeast(t, s, parse.Expr, ops, n)
		}
	}
	if back < 2000 {
		t.Errorf("%d expressions are read back", back)
	}
}

// anyWords returns a text that can be one of an expression.
func anyWords(r *rand.Rand, ops []api.Mix, deep int) string {
	switch k := r.Intn(8); {
	case deep == 0 || k == 0:
		return []string{"a", "b", "7", "t", "+", "u"}[r.Intn(6)]
	case k == 1:
		return "f( " + anyWords(r, ops, deep-1) + " , " + anyWords(r, ops, deep-1) + " )"
	case k == 2:
		return anyWords(r, ops, deep-1) + " of s"
	case k == 3:
		return "( " + anyWords(r, ops, deep-1) + " )"
	}
	m := ops[r.Intn(len(ops))]
	s := ""
	if m.Left {
		s = anyWords(r, ops, deep-1)
	}
	for i, part := range m.Parts {
		if i > 0 {
			s += anyWords(r, ops, deep-1)
		}
		s += " " + part + " "
	}
	if m.Right {
		s += anyWords(r, ops, deep-1)
	}
	return s
}

// P3.5, P3.7: each tree that is read of a text is read back, and has no more tokens than the text.
func TestReadBack(t *testing.T) {
	r := newRandom()
	read := 0
	for range 15000 {
		ops := anyMixes(r)
		text := anyWords(r, ops, 1+r.Intn(4))
		n, _, err := parse.Expr(text, ops)
		if err != api.OK {
			continue
		}
		read++
		s, err := show.Expr(n, ops)
		again, _, back := parse.Expr(s, ops)
		if err != api.OK || back != api.OK || !parse.Same(again, n) {
			t.Fatalf("%q by %v is written as %q, error %d, and read back as %s, error %d", text, ops, s, err, written(again), back)
		}
		if a, b := len(mustTokens(t, s)), len(mustTokens(t, text)); a > b {
			t.Fatalf("%q has %d tokens, %q %d", s, a, text, b)
		}
	}
	if read < 3000 {
		t.Errorf("%d texts are read", read)
	}
}

// bracketings returns all ways to write an expression, with one pair of brackets around some parts.
func bracketings(ops []api.Mix, n api.Node) []string {
	l := []string{""}
	add := func(more ...string) {
		var next []string
		for _, a := range l {
			for _, b := range more {
				next = append(next, a+" "+b)
			}
		}
		l = next
	}
	_, isOp := chapter{ops}.mix(n)
	switch {
	case n.Kind == api.NdOf:
		add(bracketings(ops, n.L[0])...)
		add("of " + n.S)
	case isOp:
		for i, piece := range strings.Split(n.S, "_") {
			if i > 0 {
				add(bracketings(ops, n.L[i-1])...)
			}
			add(piece)
		}
	default:
		add(n.S)
		for i, x := range n.L {
			add([]string{"(", ","}[min(i, 1)])
			add(bracketings(ops, x)...)
		}
		if len(n.L) > 0 {
			add(")")
		}
	}
	for _, s := range slices.Clone(l) {
		l = append(l, "( "+s+" )")
	}
	return l
}

// P3.7: no way to set brackets has fewer tokens.
func TestFewestTokens(t *testing.T) {
	r := newRandom()
	compared := 0
	for range 1500 {
		ops := anyMixes(r)
		n := anyExpr(r, ops, 2)
		if nodes, _ := parse.Size(n); nodes > 6 {
			continue
		}
		least := 0
		for _, s := range bracketings(ops, n) {
			size := len(mustTokens(t, s))
			if again, _, err := parse.Expr(s, ops); err == api.OK && parse.Same(again, n) && (least == 0 || size < least) {
				least = size
			}
		}
		if least == 0 {
			continue
		}
		compared++
		s, err := show.Expr(n, ops)
		if again, _, back := parse.Expr(s, ops); err != api.OK || back != api.OK || !parse.Same(again, n) || len(mustTokens(t, s)) != least {
			t.Fatalf("Expr(%s) by %v: %q, error %d; there is a text with %d tokens", written(n), ops, s, err, least)
		}
	}
	if compared < 300 {
		t.Errorf("%d expressions compared", compared)
	}
}
