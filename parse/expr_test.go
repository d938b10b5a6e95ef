package parse_test

import (
	"math/rand"
	"slices"
	"strings"
	"testing"

	"madrigal/api"
	"madrigal/parse"
)

// shown is a text, and the tree that is read of it.
type shown struct {
	text string
	want api.Node
}

func checkExprs(t *testing.T, ops []api.Mix, l []shown) {
	t.Helper()
	for _, x := range l {
		n, at, err := parse.Expr(x.text, ops)
		if err != api.OK || at != 0 || !parse.Same(n, x.want) || n.At != 0 || n.End != len(x.text) {
			t.Errorf("Expr(%q): %s, byte %d, error %d; want %s", x.text, form(n), at, err, form(x.want))
		}
	}
}

// byOps reads expressions by some operations.
func byOps(ops []api.Mix) reading {
	return reading{"Expr", func(text string) (api.Node, int, api.Errno) { return parse.Expr(text, ops) }}
}

// P2.1, P2.12: expressions by the operations of the chapter's examples.
func TestExpressions(t *testing.T) {
	a, b, c, d := app("a"), app("b"), app("c"), app("d")
	plus := func(x, y api.Node) api.Node { return app("_+_", x, y) }
	power := func(x, y api.Node) api.Node { return app("_^_", x, y) }
	minus := func(x api.Node) api.Node { return app("-_", x) }
	when := func(x, y, z api.Node) api.Node { return app("if_then_else_", x, y, z) }
	checkExprs(t, table(), []shown{
		{"a + b * c", plus(a, app("_*_", b, c))}, {"a * b + c", plus(app("_*_", a, b), c)}, {"a + b + c", plus(plus(a, b), c)}, {"a + (b + c)", plus(a, plus(b, c))},
		{"a ^ b ^ c", power(a, power(b, c))}, {"(a ^ b) ^ c", power(power(a, b), c)}, {"a < b", app("_<_", a, b)}, {"(a < b) < c", app("_<_", app("_<_", a, b), c)},
		{"- a + b", plus(minus(a), b)}, {"- a ^ b", minus(power(a, b))}, {"a + - b", plus(a, minus(b))}, {"- - a", minus(minus(a))}, {"- a %", minus(app("_%", a))}, {"(- a) %", app("_%", minus(a))},
		{"f(a, b) of nat", of("nat", app("f", a, b))}, {"a of nat of m", of("m", of("nat", a))}, {"a + b of nat", plus(a, of("nat", b))}, {"(a + b) of nat", of("nat", plus(a, b))}, {"- a of nat", minus(of("nat", a))}, {"a % of nat", of("nat", app("_%", a))}, {"a of nat %", app("_%", of("nat", a))}, {"a + b % of nat", plus(a, of("nat", app("_%", b)))},
		{"s(0)%", app("_%", app("s", app("0")))}, {"a + b %", plus(a, app("_%", b))}, {"a % + b", plus(app("_%", a), b)}, {"(a)", a}, {"((a))", a},
		{"if a < b then a else b + c", when(app("_<_", a, b), a, plus(b, c))}, {"if a then b else if b then c else d", when(a, b, when(b, c, d))}, {"if if a then b else c then d else a", when(when(a, b, c), d, a)}, {"if a then if b then c else d else a", when(a, when(b, c, d), a)},
		{"0", app("0")}, {"007", app("7")}, {"2147483647", app("2147483647")}, {"0 + 00", plus(app("0"), app("0"))}, {"f(007, (a))", app("f", app("7"), a)}, {"f(g(a), (b + c), d)", app("f", app("g", a), plus(b, c), d)}, {"f((a))", app("f", a)},
		{"+", app("+")}, {"+ + +", plus(app("+"), app("+"))}, {"+(a)", app("+", a)}, {"+(a) + b", plus(app("+", a), b)}, {"% %", app("_%", app("%"))}, {"then", app("then")}, {"then(a, b)", app("then", a, b)}, {"if then then else else a", when(app("then"), app("else"), a)}, {"==", app("==")}, {"left of right", of("right", app("left"))},
	})
	n, _, _ := parse.Expr(" f ( a , 007 ) of nat + (( b ))", table())
	if s := form(n); s != "50'_+_'@1-31(51'nat'@1-21(50'f'@1-14(50'a'@5-6 50'7'@9-12)) 50'b'@24-31)" {
		t.Errorf("places: %s", s)
	}
}

// P2.1: operations that end with parts of their own, and parts that begin several ones.
func TestClosedOperations(t *testing.T) {
	a, b, c := app("a"), app("b"), app("c")
	ops := []api.Mix{
		{Parts: []string{"<", ">"}, Prio: 1},
		{Parts: []string{"^"}, Left: true, Right: true, Prio: 9, Side: api.SideRight},
		{Parts: []string{"*"}, Left: true, Right: true, Prio: 9},
		{Parts: []string{"#", "#"}, Left: true, Prio: 4, Side: api.SideLeft},
		{Parts: []string{"#"}, Right: true, Prio: 9},
		{Parts: []string{"@"}, Left: true, Prio: 3},
		{Parts: []string{"~"}, Right: true, Prio: 4, Side: api.SideLeft},
	}
	checkExprs(t, ops, []shown{
		{"< a >", app("<_>", a)}, {"a * < b >", app("_*_", a, app("<_>", b))}, {"< a > * b", app("_*_", app("<_>", a), b)}, {"a ^ < b > ^ c", app("_^_", a, app("_^_", app("<_>", b), c))}, {"< < a > >", app("<_>", app("<_>", a))}, {"< a > of s", of("s", app("<_>", a))}, {"a * (b)", app("_*_", a, b)},
		{"# a", app("#_", a)}, {"a ^ # b", app("_^_", a, app("#_", b))}, {"# a ^ b", app("#_", app("_^_", a, b))},
		{"a # b @ #", app("_#_#", a, app("_@", b))}, {"a # # b @ #", app("_#_#", a, app("_@", app("#_", b)))}, {"a # b @ # # c @ #", app("_#_#", app("_#_#", a, app("_@", b)), app("_@", c))},
		{"~ a # b @ #", app("~_", app("_#_#", a, app("_@", b)))}, {"~ ~ a", app("~_", app("~_", a))}, {"~ a @", app("_@", app("~_", a))}, {"~ (a @)", app("~_", app("_@", a))},
	})
	for _, x := range []struct {
		text string
		at   int
	}{{"a # b #", 7}, {"a * b * c", 6}, {"a * # b", 4}, {"a * ~ b", 4}, {"a ^ ~ b", 4}, {"< a", 3}, {"< a ) >", 4}, {"< >", 3}, {"a >", 2}, {"a @ @", 4}, {"a @ # b @ #", 4}, {"a # b @ @", 8}} {
		err := api.ErrExpr
		if strings.Contains(x.text, ")") {
			err = api.ErrSyntax
		}
		refused(t, byOps(ops), x.text, x.at, err)
	}
}

// P2.1: where the rules for expressions do not go on.
func TestWrongExpressions(t *testing.T) {
	r := byOps(table())
	for _, x := range []struct {
		text string
		at   int
		err  api.Errno
	}{
		{"a < b < c", 6, api.ErrExpr}, {"a ^ - b", 4, api.ErrExpr}, {"a ^ -b", 4, api.ErrExpr}, {"a * - b", 4, api.ErrExpr}, {"a + if b then c else d", 4, api.ErrExpr}, {"a b", 2, api.ErrExpr}, {"a 1", 2, api.ErrExpr}, {"1 (a)", 2, api.ErrExpr}, {"(a)(b)", 3, api.ErrExpr}, {"f(a)(b)", 4, api.ErrExpr},
		{"f()", 2, api.ErrExpr}, {"f(a,)", 4, api.ErrExpr}, {"f(,a)", 2, api.ErrExpr}, {"f(a b)", 4, api.ErrExpr}, {"f(a", 3, api.ErrExpr}, {"f(a,", 4, api.ErrExpr}, {"f(a, b ", 7, api.ErrExpr}, {"(a, b)", 2, api.ErrExpr}, {"()", 1, api.ErrExpr}, {"(", 1, api.ErrExpr}, {"( ", 2, api.ErrExpr}, {"(a", 2, api.ErrExpr}, {"((a)", 4, api.ErrExpr}, {"(a (* *)", 8, api.ErrExpr},
		{"a of", 4, api.ErrExpr}, {"a of 3", 5, api.ErrExpr}, {"a of +", 5, api.ErrExpr}, {"of", 0, api.ErrExpr}, {"of nat", 0, api.ErrExpr}, {"a of of", 5, api.ErrExpr}, {"a of (nat)", 5, api.ErrExpr},
		{"if a else b", 5, api.ErrExpr}, {"if a then b", 11, api.ErrExpr}, {"if", 2, api.ErrExpr}, {"if(a)", 5, api.ErrExpr}, {"-", 1, api.ErrExpr}, {"a +", 3, api.ErrExpr}, {"a + ", 4, api.ErrExpr}, {"a % % ", 4, api.ErrExpr}, {"a then b", 2, api.ErrExpr}, {"- if a then b else c", 2, api.ErrExpr},
		{"", 0, api.ErrSyntax}, {" ", 1, api.ErrSyntax}, {"(* *)", 5, api.ErrSyntax}, {"a)", 1, api.ErrSyntax}, {"a,b", 1, api.ErrSyntax}, {")", 0, api.ErrSyntax}, {",", 0, api.ErrSyntax}, {"(a))", 3, api.ErrSyntax}, {"(a;", 2, api.ErrSyntax}, {"a = b", 2, api.ErrSyntax}, {"_+_", 0, api.ErrSyntax}, {"a stop", 2, api.ErrSyntax}, {"i", 0, api.ErrSyntax}, {"a b b b = c", 8, api.ErrSyntax}, {"a ! b", 2, api.ErrSyntax}, {"a b;", 3, api.ErrSyntax},
		{"a |", 2, api.ErrLex}, {"a b; (*", 5, api.ErrLex}, {"a \"", 2, api.ErrLex}, {strings.Repeat(" ", 100001), 0, api.ErrLimit}, {strings.Repeat(";", 20001), 0, api.ErrLimit},
	} {
		refused(t, r, x.text, x.at, x.err)
	}
}

// P2.1, P2.2: operations that cannot be told apart.
func TestWrongOperations(t *testing.T) {
	mix := func(left, right bool, parts ...string) api.Mix {
		return api.Mix{Parts: parts, Left: left, Right: right, Prio: 5, Side: api.SideLeft}
	}
	with := func(prio, side int) api.Mix { return api.Mix{Parts: []string{"+"}, Left: true, Prio: prio, Side: side} }
	many := func(n int) []api.Mix {
		var l []api.Mix
		for i := range n {
			l = append(l, mix(i%2 == 0, true, strings.Repeat("a", i/2%16+1)+strings.Repeat("b", i/32)))
		}
		return l
	}
	for i, x := range []struct {
		ops []api.Mix
		ok  bool
	}{
		{nil, true}, {[]api.Mix{}, true}, {table(), true}, {append(table(), table()[0]), false}, {append(table(), mix(false, false, "a", "if")), true}, {append(table(), mix(false, false, "if", "b")), false}, {append(table(), mix(true, false, "if", "b")), true}, {append(table(), mix(true, false, "+", "b")), false}, {append(table(), mix(false, true, "+")), true}, {[]api.Mix{mix(true, true, "a"), mix(true, false, "a")}, false}, {[]api.Mix{mix(true, true, "a"), mix(false, true, "a")}, true}, {[]api.Mix{mix(true, true, "a"), with(5, 1), mix(true, true, "a")}, false},
		{many(256), true}, {many(257), false},
		{[]api.Mix{mix(false, false, "a")}, false}, {[]api.Mix{mix(false, true, "a")}, true}, {[]api.Mix{mix(true, false, "a")}, true}, {[]api.Mix{mix(false, false, "a", "a")}, true}, {[]api.Mix{mix(true, true)}, false}, {[]api.Mix{mix(true, true, "a", "b", "c", "d", "e", "f", "g", "h")}, true}, {[]api.Mix{mix(true, true, "a", "b", "c", "d", "e", "f", "g", "h", "i'")}, false},
		{[]api.Mix{mix(true, true, "stop")}, false}, {[]api.Mix{mix(true, true, "i")}, false}, {[]api.Mix{mix(true, true, "of")}, false}, {[]api.Mix{mix(true, true, "=")}, false}, {[]api.Mix{mix(true, true, "==")}, true}, {[]api.Mix{mix(true, true, "1")}, false}, {[]api.Mix{mix(true, true, "")}, false}, {[]api.Mix{mix(true, true, "a b")}, false}, {[]api.Mix{mix(true, true, "a_b")}, false}, {[]api.Mix{mix(true, true, " a")}, false}, {[]api.Mix{mix(true, true, "!")}, false}, {[]api.Mix{mix(true, true, "a", "->")}, false}, {[]api.Mix{mix(true, true, strings.Repeat("a", 32))}, true}, {[]api.Mix{mix(true, true, strings.Repeat("a", 33))}, false},
		{[]api.Mix{with(1, 0)}, true}, {[]api.Mix{with(9, 2)}, true}, {[]api.Mix{with(0, 0)}, false}, {[]api.Mix{with(10, 0)}, false}, {[]api.Mix{with(-1, 0)}, false}, {[]api.Mix{with(5, 3)}, false}, {[]api.Mix{with(5, -1)}, false},
	} {
		want := api.ErrMix
		if x.ok {
			want = api.OK
		}
		if err := parse.CheckOps(x.ops); err != want {
			t.Errorf("%d: CheckOps(%v): error %d", i, x.ops, err)
		}
		if _, _, err := parse.Expr("z", x.ops); err != want {
			t.Errorf("%d: Expr by %v: error %d", i, x.ops, err)
		}
		if _, _, err := parse.Behaviour("stop", x.ops); err != want {
			t.Errorf("%d: Behaviour by %v: error %d", i, x.ops, err)
		}
		if len(x.ops) != 1 {
			continue
		}
		if s, err := parse.MixName(x.ops[0]); err != want || (s == "") == x.ok {
			t.Errorf("%d: MixName(%v): %q, error %d", i, x.ops[0], s, err)
		}
	}
	bad := []api.Mix{{}}
	for _, text := range []string{"a", "", "a |", ";", strings.Repeat(" ", 100001)} {
		refused(t, byOps(bad), text, 0, api.ErrMix)
		refused(t, reading{"Behaviour", func(text string) (api.Node, int, api.Errno) { return parse.Behaviour(text, bad) }}, text, 0, api.ErrMix)
	}
}

// P2.2: names of operations.
func TestMixName(t *testing.T) {
	for i, want := range []string{"_+_", "_*_", "_^_", "_<_", "-_", "_%", "if_then_else_"} {
		if s, err := parse.MixName(table()[i]); s != want || err != api.OK {
			t.Errorf("MixName(%v): %q, error %d", table()[i], s, err)
		}
	}
	if s, err := parse.MixName(api.Mix{Parts: []string{"<", ">"}, Prio: 1}); s != "<_>" || err != api.OK {
		t.Errorf("MixName: %q, error %d", s, err)
	}
}

// chain is an expression of operations with an argument ahead of them and one behind: what it is read as is found by taking it apart at the operation that is last.
type chain struct {
	args []string
	ops  []api.Mix
}

func (c chain) text() string {
	s := c.args[0]
	for i, o := range c.ops {
		s += " " + o.Parts[0] + " " + c.args[i+1]
	}
	return s
}

// tree wants that operations with the same priority have the same side; false: there is no reading.
func (c chain) tree() (api.Node, bool) {
	if len(c.ops) == 0 {
		return app(c.args[0]), true
	}
	split, twice := 0, false
	for i, o := range c.ops[1:] {
		last := c.ops[split]
		if o.Prio < last.Prio {
			twice = false
		}
		if o.Prio == last.Prio {
			twice = true
		}
		if o.Prio < last.Prio || o.Prio == last.Prio && o.Side == api.SideLeft {
			split = i + 1
		}
	}
	o := c.ops[split]
	a, ok := chain{c.args[:split+1], c.ops[:split]}.tree()
	b, ok2 := chain{c.args[split+1:], c.ops[split+1:]}.tree()
	return app("_"+o.Parts[0]+"_", a, b), ok && ok2 && !(twice && o.Side == api.SideNone)
}

// P2.12: chains of operations with different priorities and sides.
func TestChains(t *testing.T) {
	r := newRandom()
	read, wrong := 0, 0
	for range 5000 {
		var sides [10]int
		for i := range sides {
			sides[i] = r.Intn(3)
		}
		var ops []api.Mix
		for _, s := range []string{"+", "*", "mod", "&"} {
			prio := 1 + r.Intn(9)
			ops = append(ops, api.Mix{Parts: []string{s}, Left: true, Right: true, Prio: prio, Side: sides[prio]})
		}
		c := chain{args: []string{"a"}}
		for range r.Intn(6) {
			c.args = append(c.args, []string{"a", "b", "7"}[r.Intn(3)])
			c.ops = append(c.ops, ops[r.Intn(len(ops))])
		}
		want, ok := c.tree()
		n, at, err := parse.Expr(c.text(), ops)
		if !ok {
			wrong++
			if err != api.ErrExpr || !isPartAt(c.text(), at, ops) {
				t.Fatalf("Expr(%q) by %v: %s, byte %d, error %d", c.text(), ops, form(n), at, err)
			}
			continue
		}
		read++
		if err != api.OK || !parse.Same(n, want) {
			t.Fatalf("Expr(%q) by %v: %s, byte %d, error %d; want %s", c.text(), ops, form(n), at, err, form(want))
		}
	}
	if read < 1000 || wrong < 500 {
		t.Errorf("%d chains are read, %d not", read, wrong)
	}
}

// isPartAt reports whether an operation stands at a byte.
func isPartAt(text string, at int, ops []api.Mix) bool {
	return slices.ContainsFunc(ops, func(o api.Mix) bool { return strings.HasPrefix(text[at:], o.Parts[0]+" ") })
}

// P2.7: brackets change nothing, and what is an expression up to n is one up to each lesser number.
func TestBrackets(t *testing.T) {
	made(1500, func(r reading, text string, want api.Node) {
		if r.what == "Parse" {
			return
		}
		n := mustRead(t, r, "("+text+")")
		if !parse.Same(n, want) || n.At != 0 || n.End != len(text)+2 {
			t.Fatalf("%s(%q): %s, want %s", r.what, "("+text+")", form(n), form(want))
		}
	})
	r := newRandom()
	for range 300 {
		m := newMaker(r, table())
		n := m.expr(3)
		text := m.text.String()
		least := 0
		for prio := 1; prio <= 9; prio++ {
			// The argument of this operation is an expression up to its priority.
			o := api.Mix{Parts: []string{"#"}, Right: true, Prio: prio}
			got, _, err := parse.Expr("#"+text, append(table(), o))
			if err == api.OK && parse.Same(got, app("#_", n)) {
				if least > 0 {
					t.Fatalf("%q is an expression up to %d, but not up to %d", text, prio, least)
				}
			} else if least == 0 {
				least = prio
			}
		}
	}
}

// P2.8: operations that do not occur in a text can be added.
func TestMoreOperations(t *testing.T) {
	more := append(table(), api.Mix{Parts: []string{"other"}, Left: true, Right: true, Prio: 2}, api.Mix{Parts: []string{"&", "a", "+"}, Right: true, Prio: 7}, api.Mix{Parts: []string{"&"}, Left: true, Prio: 9, Side: api.SideRight})
	made(750, func(r reading, text string, want api.Node) {
		var n api.Node
		var err api.Errno
		switch r.what {
		case "Parse":
			ops, err := parse.Ops(want)
			if err != api.OK {
				t.Fatalf("Ops of the tree of %q: error %d", text, err)
			}
			checkParts(t, text, want, ops)
			return
		case "Behaviour":
			n, _, err = parse.Behaviour(text, more)
		case "Expr":
			n, _, err = parse.Expr(text, more)
		}
		if err != api.OK || !equal(n, want) {
			t.Fatalf("%s(%q): %s, error %d; want %s", r.what, text, form(n), err, form(want))
		}
	})
}

// checkParts checks that the text of each behaviour and expression within a tree, read by the operations of the tree, is this node.
func checkParts(t *testing.T, text string, n api.Node, ops []api.Mix) {
	t.Helper()
	everyNode(n, func(x api.Node) {
		read := parse.Expr
		if x.Kind >= api.NdStop && x.Kind <= api.NdWait {
			read = parse.Behaviour
		} else if x.Kind != api.NdApp && x.Kind != api.NdOf {
			return
		}
		if got, at, err := read(text[x.At:x.End], ops); err != api.OK || !parse.Same(got, x) {
			t.Fatalf("%q of %q: %s, byte %d, error %d; want %s", text[x.At:x.End], text, form(got), at, err, form(x))
		}
	})
}

// P2.5: the text at the place of each behaviour and each expression is it.
func TestPartsOfTexts(t *testing.T) {
	made(600, func(r reading, text string, want api.Node) {
		if r.what != "Parse" {
			checkParts(t, text, mustRead(t, r, text), table())
		}
	})
	r := newRandom()
	for range 3000 {
		ops := anyMixes(r)
		text := anyWords(r, ops)
		if n, _, err := parse.Expr(text, ops); err == api.OK {
			checkParts(t, text, n, ops)
		}
	}
}

// anyWords returns parts, names, numbers and brackets in any order.
func anyWords(r *rand.Rand, ops []api.Mix) string {
	words := []string{"a", "7", "f", "(a)", "f(a)", "of s"}
	for _, o := range ops {
		words = append(words, o.Parts...)
	}
	s := ""
	for range 1 + r.Intn(7) {
		s += words[r.Intn(len(words))] + " "
	}
	return s
}

// P2.1: the limits of trees, with many brackets, which are no nodes.
func TestLimitsOfExpressions(t *testing.T) {
	within := func(n int) string { return strings.Repeat("f(", n) + "a" + strings.Repeat(")", n) }
	r := byOps(table())
	for _, text := range []string{within(399), strings.Repeat("(", 9999) + "a" + strings.Repeat(")", 9999), "f(" + strings.Repeat("a,", 9998) + "a)", strings.Repeat("- ", 399) + "a", "a" + strings.Repeat("+ a", 399), "a" + strings.Repeat("^ a", 399), "a" + strings.Repeat(" of s", 399)} {
		mustRead(t, r, text)
	}
	for _, text := range []string{within(400), within(6000), strings.Repeat("- ", 400) + "a", "a" + strings.Repeat("+ a", 400), "a" + strings.Repeat("^ a", 400), "a" + strings.Repeat("^ a", 9999), "a" + strings.Repeat(" of s", 400), "a" + strings.Repeat(" of s", 9999)} {
		refused(t, r, text, 0, api.ErrLimit)
	}
	refused(t, r, within(400)+" b", len(within(400))+1, api.ErrExpr)
	refused(t, r, strings.Repeat("(", 20000), 20000, api.ErrExpr)
	refused(t, r, strings.Repeat("f(", 10000), 20000, api.ErrExpr)
}
