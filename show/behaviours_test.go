package show_test

import (
	"math/rand"
	"slices"
	"strings"
	"testing"

	"madrigal/api"
	"madrigal/parse"
	"madrigal/show"
)

func checkBehaviours(t *testing.T, l []shown) {
	t.Helper()
	for _, x := range l {
		s, err := show.Behaviour(x.n, table())
		if err != api.OK || s != x.want {
			t.Errorf("Behaviour(%s): %q, error %d; want %q", written(x.n), s, err, x.want)
		}
		n, _, err := parse.Behaviour(x.want, table())
		if err != api.OK || !parse.Same(n, x.n) {
			t.Errorf("%q is read as %s, error %d; want %s", x.want, written(n), err, written(x.n))
		}
		checkLeast(t, x.want, parse.Behaviour, table(), x.n)
	}
}

// P3.1, P3.5: each kind of behaviours, with all that it can have.
func TestBehaviours(t *testing.T) {
	a, b := app("a"), app("b")
	plus := app("_+_", a, b)
	x := list(eq(a, plus))
	two := list(eq(a, b), eq(plus, a))
	binds := func(l ...api.Node) api.Node { return list(l...) }
	bind := func(s, sort string, n api.Node) api.Node { return named(api.NdBind, s, name(sort), n) }
	gates := func(s, l string) api.Node { return named(api.NdGate, s, names(l)) }
	checkBehaviours(t, []shown{
		{stop(), "stop"},
		{node(api.NdExit), "exit"}, {node(api.NdExit, give(plus)), "exit(a+b)"}, {node(api.NdExit, anyOf("nat"), give(a), anyOf("s")), "exit(any nat,a,any s)"},
		{pre("a", stop()), "a;stop"}, {pre("i", pre("i", stop())), "i;i;stop"},
		{action("a", list(give(a), take("x", "s"), take("y", "s"), give(plus)), list(), list(), stop()), "a!a?x:s?y:s!a+b;stop"},
		{action("a", list(give(a)), x, list(), stop()), "a!a[a=a+b];stop"}, {action("i", list(take("x", "s")), two, list(win(1, "5")), stop()), "i?x:s[a=b,a+b=a]{5};stop"},
		{action("a", list(), list(), list(win(1, "0")), stop()), "a{0};stop"}, {action("a", list(), list(), list(win(2, "3")), stop()), "a{3..};stop"}, {action("a", list(give(a)), list(), list(win(3, "4 2")), stop()), "a!a{4..2};stop"},
		{par("||", "", stop(), stop()), "stop||stop"}, {par("|||", "", call("P"), call("Q")), "P|||Q"}, {par("|[", "a", stop(), stop()), "stop|[a]|stop"}, {par("|[", "a b a", stop(), stop()), "stop|[a,b,a]|stop"},
		{hide("a", stop()), "hide a in stop"}, {hide("a b", stop()), "hide a,b in stop"},
		{enable(stop(), stop()), "stop>>stop"}, {node(api.NdEnable, decls("x:s y:s z:t"), stop(), stop()), "stop>>accept x:s,y:s,z:t in stop"},
		{disable(stop(), stop()), "stop[>stop"}, {choice(stop(), stop()), "stop[]stop"},
		{node(api.NdGuard, x, stop()), "[a=a+b]->stop"}, {node(api.NdGuard, two, pre("a", stop())), "[a=b,a+b=a]->a;stop"},
		{node(api.NdLet, binds(bind("x", "s", plus)), stop()), "let x:s=a+b in stop"}, {node(api.NdLet, binds(bind("x", "s", a), bind("y", "s", b)), stop()), "let x:s=a,y:s=b in stop"},
		{node(api.NdSome, decls("x:s"), stop()), "choice x:s[]stop"}, {node(api.NdSome, decls("x:s y:s"), stop()), "choice x:s,y:s[]stop"},
		{node(api.NdPick, list(gates("g", "a")), stop()), "choice g in[a][]stop"}, {node(api.NdPick, list(gates("g", "a b"), gates("h", "c")), pre("g", stop())), "choice g in[a,b],h in[c][]g;stop"},
		{call("P"), "P"}, {named(api.NdCall, "P", names("a b"), list()), "P[a,b]"}, {named(api.NdCall, "P", list(), list(a, plus)), "P(a,a+b)"}, {named(api.NdCall, "P", names("a"), list(app("_*_", plus, a))), "P[a]((a+b)*a)"},
		{numbered(api.NdWait, 0, stop()), "wait 0;stop"}, {numbered(api.NdWait, 2147483647, numbered(api.NdWait, 7, stop())), "wait 2147483647;wait 7;stop"},
	})
	n, _, _ := parse.Behaviour("a ?x, y : nat; stop >> accept u, v : s, w : t in choice k, l : s [] exit", nil)
	if s, err := show.Behaviour(n, nil); err != api.OK || s != "a?x:nat?y:nat;stop>>accept u:s,v:s,w:t in choice k:s,l:s[]exit" {
		t.Errorf("names with a sort of their own: %q, error %d", s, err)
	}
}

// hole is a behaviour with one place for another one: which level it needs to stand there without brackets, and whether it is last there if the whole is.
type hole struct {
	text  string // with ~ for the place
	tree  func(n api.Node) api.Node
	level int
	last  bool
}

func holes() []hole {
	s := stop()
	x := list(eq(app("a"), app("b")))
	return []hole{
		{"~>>stop", func(n api.Node) api.Node { return enable(n, s) }, 1, false},
		{"stop>>~", func(n api.Node) api.Node { return enable(s, n) }, 0, true},
		{"stop>>accept x:s in ~", func(n api.Node) api.Node { return node(api.NdEnable, decls("x:s"), s, n) }, 0, true},
		{"~[>stop", func(n api.Node) api.Node { return disable(n, s) }, 2, false},
		{"stop[>~", func(n api.Node) api.Node { return disable(s, n) }, 1, true},
		{"~||stop", func(n api.Node) api.Node { return par("||", "", n, s) }, 3, false},
		{"stop|||~", func(n api.Node) api.Node { return par("|||", "", s, n) }, 2, true},
		{"stop|[a]|~", func(n api.Node) api.Node { return par("|[", "a", s, n) }, 2, true},
		{"~[]stop", func(n api.Node) api.Node { return choice(n, s) }, 4, false},
		{"stop[]~", func(n api.Node) api.Node { return choice(s, n) }, 3, true},
		{"a;~", func(n api.Node) api.Node { return pre("a", n) }, 4, true},
		{"[a=b]->~", func(n api.Node) api.Node { return node(api.NdGuard, x, n) }, 4, true},
		{"wait 2;~", func(n api.Node) api.Node { return numbered(api.NdWait, 2, n) }, 4, true},
		{"hide a in ~", func(n api.Node) api.Node { return hide("a", n) }, 0, true},
		{"let x:s=a in ~", func(n api.Node) api.Node {
			return node(api.NdLet, list(named(api.NdBind, "x", name("s"), app("a"))), n)
		}, 0, true},
		{"choice x:s[]~", func(n api.Node) api.Node { return node(api.NdSome, decls("x:s"), n) }, 0, true},
		{"choice g in[a][]~", func(n api.Node) api.Node { return node(api.NdPick, list(named(api.NdGate, "g", names("a"))), n) }, 0, true},
	}
}

// filler is a behaviour with its level.
type filler struct {
	n     api.Node
	text  string
	level int
	open  bool
}

func fillers() []filler {
	s := stop()
	l := []filler{
		{s, "stop", 4, false}, {node(api.NdExit), "exit", 4, false}, {call("P"), "P", 4, false},
		{choice(s, s), "stop[]stop", 3, false}, {par("||", "", s, s), "stop||stop", 2, false}, {par("|[", "a", s, s), "stop|[a]|stop", 2, false}, {disable(s, s), "stop[>stop", 1, false}, {enable(s, s), "stop>>stop", 0, false},
	}
	for _, h := range holes()[10:] {
		l = append(l, filler{h.tree(s), strings.Replace(h.text, "~", "stop", 1), 4, h.level == 0})
	}
	return l
}

// P3.1, P3.5, P3.6, P3.12: each behaviour within each other one, alone and where more follows.
func TestLevels(t *testing.T) {
	bracket := func(text string, isBare bool) string {
		if isBare {
			return text
		}
		return "(" + text + ")"
	}
	put := func(h hole, text string) string {
		return mustJoin(t, mustTokens(t, strings.Replace(h.text, "~", text, 1)))
	}
	var all []shown
	for _, h := range holes() {
		for _, f := range fillers() {
			all = append(all, shown{h.tree(f.n), put(h, bracket(f.text, f.level >= h.level && (h.last || !f.open)))})
		}
	}
	// What stands in one that stands in a third one: what follows that, follows it, too.
	for _, h := range holes() {
		for _, m := range holes()[10:] {
			for _, f := range fillers() {
				middle := filler{n: m.tree(f.n), level: 4, open: m.level == 0}
				isBare := h.last || !middle.open
				middle.text = put(m, bracket(f.text, f.level >= m.level && (h.last || !isBare || !f.open)))
				all = append(all, shown{h.tree(middle.n), put(h, bracket(middle.text, isBare))})
			}
		}
	}
	checkBehaviours(t, all)
}

// P3.1: what is no tree of a behaviour.
func TestWrongBehaviours(t *testing.T) {
	a, s := app("a"), stop()
	none, x := list(), list(eq(app("a"), app("b")))
	wide := func(n int, l ...api.Node) api.Node { return list(numbered(api.NdWin, n, l...)) }
	bind := func(s string, l ...api.Node) api.Node {
		return node(api.NdLet, list(named(api.NdBind, s, l...)), stop())
	}
	pick := func(l ...api.Node) api.Node { return node(api.NdPick, list(l...), stop()) }
	for i, n := range []api.Node{
		{}, a, none, name("a"), decls("x:s").L[0], give(a), node(api.NdFunc), node(99, s), node(-1), node(api.NdEq, a, a), node(api.NdSpec), node(api.NdProc), named(api.NdType, "t"),
		node(api.NdStop, s), node(api.NdStop, none), named(api.NdStop, "a"), numbered(api.NdStop, 1),
		node(api.NdExit, a), node(api.NdExit, s), node(api.NdExit, give(s)), node(api.NdExit, node(api.NdGive)), node(api.NdExit, node(api.NdGive, a, a)), node(api.NdExit, named(api.NdGive, "a", a)), node(api.NdExit, numbered(api.NdGive, 1, a)), node(api.NdExit, node(api.NdAny)), node(api.NdExit, node(api.NdAny, name("+"))), node(api.NdExit, node(api.NdAny, a)), node(api.NdExit, named(api.NdAny, "x", name("s"))), node(api.NdExit, take("x", "s")), named(api.NdExit, "x"), numbered(api.NdExit, -1), node(api.NdExit, give(app("if"))),
		node(api.NdPre), node(api.NdPre, name("a"), none, none, none), node(api.NdPre, name("a"), none, none, none, s, s), named(api.NdPre, "a", name("a"), none, none, none, s), pre("a", a), pre("", s), pre("+", s), pre("1", s), pre("stop", s), pre("a b", s), node(api.NdPre, a, none, none, none, s), node(api.NdPre, named(api.NdName, "a", none), none, none, none, s), node(api.NdPre, api.Node{Kind: api.NdName, S: "a", N: 1}, none, none, none, s), node(api.NdPre, none, none, none, none, s),
		action("a", list(a), none, none, s), action("a", list(anyOf("s")), none, none, s), action("a", give(a), none, none, s), action("a", list(node(api.NdTake, name("s"))), none, none, s), action("a", list(named(api.NdTake, "x")), none, none, s), action("a", list(named(api.NdTake, "x", name("s"), name("s"))), none, none, s), action("a", list(take("i", "s")), none, none, s), action("a", list(take("x", "0")), none, none, s), action("a", list(decls("x:s").L[0]), none, none, s), action("a", list(give(s)), none, none, s),
		action("a", none, x, none, s), action("i", none, x, none, s), action("a", list(give(a)), list(a), none, s), action("a", list(give(a)), list(node(api.NdEq, a)), none, s), action("a", list(give(a)), list(node(api.NdEq, a, a, a)), none, s), action("a", list(give(a)), list(named(api.NdEq, "=", a, a)), none, s), action("a", list(give(a)), eq(a, a), none, s), action("a", list(give(a)), list(eq(a, s)), none, s), action("a", list(give(a)), named(api.NdList, "x", eq(a, a)), none, s), action("a", list(give(a)), numbered(api.NdList, 2, eq(a, a)), none, s),
		action("a", none, none, list(win(1, "1"), win(1, "1")), s), action("a", none, none, wide(0, name("1")), s), action("a", none, none, wide(4, name("1"), name("2")), s), action("a", none, none, wide(1), s), action("a", none, none, wide(1, name("1"), name("2")), s), action("a", none, none, wide(2, name("1"), name("2")), s), action("a", none, none, wide(3, name("1")), s), action("a", none, none, wide(3, name("1"), name("2"), name("3")), s), action("a", none, none, wide(1, name("01")), s), action("a", none, none, wide(1, name("x")), s), action("a", none, none, wide(1, name("-1")), s), action("a", none, none, wide(1, name("+1")), s), action("a", none, none, wide(1, name("")), s), action("a", none, none, wide(1, name("2147483648")), s), action("a", none, none, wide(1, app("1")), s), action("a", none, none, list(node(api.NdWin, name("1"))), s), action("a", none, none, list(api.Node{Kind: api.NdWin, N: 1, S: "x", L: []api.Node{name("1")}}), s), action("a", none, none, list(name("1")), s),
		choice(s, a), choice(a, s), node(api.NdChoice, s), node(api.NdChoice, s, s, s), named(api.NdChoice, "[]", s, s), numbered(api.NdChoice, 1, s, s), node(api.NdDisable, s), node(api.NdEnable, s, s), enable(s, a), enable(none, s), node(api.NdEnable, list(name("x")), s, s), node(api.NdEnable, decls("x:s").L[0], s, s), node(api.NdEnable, decls("x:0"), s, s), node(api.NdEnable, typed(api.NdTake, "x:s"), s, s), node(api.NdEnable, decls("stop:s"), s, s), named(api.NdEnable, ">>", none, s, s),
		par("", "", s, s), par("|[", "", s, s), par("||", "a", s, s), par("|||", "a", s, s), par("[]", "", s, s), par("]|", "a", s, s), par("|[", "a +", s, s), par("|[", "i", s, s), named(api.NdPar, "||", s, s), named(api.NdPar, "||", name("a"), s, s), named(api.NdPar, "|[", decls("a:s"), s, s), {Kind: api.NdPar, S: "||", N: 1, L: []api.Node{none, s, s}},
		hide("", s), hide("a +", s), hide("i", s), hide("a", a), node(api.NdHide, names("a")), node(api.NdHide, name("a"), s), node(api.NdHide, names("a"), s, s), named(api.NdHide, "a", names("a"), s),
		node(api.NdGuard, none, s), node(api.NdGuard, x), node(api.NdGuard, x, a), node(api.NdGuard, x, s, s), node(api.NdGuard, list(a), s), node(api.NdGuard, eq(a, a), s), numbered(api.NdGuard, 1, x, s),
		node(api.NdLet, none, s), node(api.NdLet, decls("x:s"), s), bind("x", name("s")), bind("x", name("s"), s), bind("", name("s"), a), bind("+", name("s"), a), bind("x", a, a), bind("x", name("s"), a, a), bind("x", a, name("s")), node(api.NdLet, named(api.NdBind, "x", name("s"), a), s), node(api.NdLet, list(api.Node{Kind: api.NdBind, S: "x", N: 1, L: []api.Node{name("s"), a}}), s),
		node(api.NdSome, none, s), node(api.NdSome, names("x"), s), node(api.NdSome, decls("x:s")), node(api.NdSome, decls("x:s"), a), node(api.NdSome, list(named(api.NdGate, "g", names("a"))), s), node(api.NdSome, list(named(api.NdDecl, "x")), s), node(api.NdSome, list(api.Node{Kind: api.NdDecl, S: "x", N: 1, L: []api.Node{name("s")}}), s),
		pick(), pick(name("g")), pick(decls("x:s").L[0]), pick(named(api.NdGate, "g")), pick(named(api.NdGate, "g", none)), pick(named(api.NdGate, "g", name("a"))), pick(named(api.NdGate, "g", name("a"), name("b"))), pick(named(api.NdGate, "g", names("a"), names("b"))), pick(named(api.NdGate, "", names("a"))), pick(named(api.NdGate, "i", names("a"))), pick(named(api.NdGate, "g", names("i"))), pick(api.Node{Kind: api.NdGate, S: "g", N: 1, L: []api.Node{names("a")}}), node(api.NdPick, named(api.NdGate, "g", names("a")), s),
		call(""), call("i"), call("+"), call("1"), named(api.NdCall, "P"), named(api.NdCall, "P", none), named(api.NdCall, "P", none, none, none), named(api.NdCall, "P", names("+"), none), named(api.NdCall, "P", decls("a:s"), none), named(api.NdCall, "P", none, names("x")), named(api.NdCall, "P", none, list(s)), named(api.NdCall, "P", none, a), named(api.NdCall, "P", none, list(app("if"))), {Kind: api.NdCall, S: "P", N: 1, L: []api.Node{none, none}},
		numbered(api.NdWait, -1, s), numbered(api.NdWait, 2147483648, s), numbered(api.NdWait, 1), numbered(api.NdWait, 1, a), numbered(api.NdWait, 1, s, s), {Kind: api.NdWait, S: "1", N: 1, L: []api.Node{s}},
	} {
		for _, x := range []api.Node{n, choice(s, pre("a", n)), hide("a", disable(n, s))} {
			if text, err := show.Behaviour(x, table()); text != "" || err != api.ErrShown {
				t.Errorf("%d: Behaviour(%s): %q, error %d", i, written(x), text, err)
			}
		}
	}
}

// grower makes trees.
type grower struct {
	r   *rand.Rand
	ops []api.Mix
}

func (g grower) chance() bool { return g.r.Intn(2) == 0 }

func (g grower) word() string {
	return []string{"a", "b", "x1", "P", "left", "right", "then", "x''"}[g.r.Intn(8)]
}

func (g grower) name() api.Node { return name(g.word()) }

// some makes a list of at least so many nodes.
func (g grower) some(least int, one func() api.Node) api.Node {
	l := list()
	for len(l.L) < least || g.chance() {
		l.L = append(l.L, one())
	}
	return l
}

func (g grower) names(least int) api.Node { return g.some(least, g.name) }

func (g grower) decls(least int) api.Node {
	return g.some(least, func() api.Node { return named(api.NdDecl, g.word(), g.name()) })
}

func (g grower) expr() api.Node { return anyExpr(g.r, g.ops, 2) }

func (g grower) eqs(least int) api.Node {
	return g.some(least, func() api.Node { return eq(g.expr(), g.expr()) })
}

func (g grower) offer() api.Node {
	if g.chance() {
		return give(g.expr())
	}
	return named(api.NdTake, g.word(), g.name())
}

func (g grower) given() api.Node {
	if g.chance() {
		return give(g.expr())
	}
	return node(api.NdAny, g.name())
}

func (g grower) action(deep int) api.Node {
	gate := []string{"i", g.word(), g.word()}[g.r.Intn(3)]
	n := action(gate, g.some(0, g.offer), list(), list(), g.behaviour(deep-1))
	if len(n.L[1].L) > 0 {
		n.L[2] = g.eqs(0)
	}
	if g.chance() {
		form := 1 + g.r.Intn(3)
		n.L[3] = list(win(form, []string{"0", "17", "3 2147483647"}[form-1]))
	}
	return n
}

func (g grower) behaviour(deep int) api.Node {
	if deep == 0 {
		return []api.Node{stop(), call(g.word()), node(api.NdExit, g.some(0, g.given).L...)}[g.r.Intn(3)]
	}
	next := func() api.Node { return g.behaviour(deep - 1) }
	switch g.r.Intn(12) {
	case 0, 1:
		return choice(next(), next())
	case 2:
		n := named(api.NdPar, []string{"||", "|||", "|["}[g.r.Intn(3)], list(), next(), next())
		if n.S == "|[" {
			n.L[0] = g.names(1)
		}
		return n
	case 3:
		return disable(next(), next())
	case 4:
		return node(api.NdEnable, g.decls(0), next(), next())
	case 5:
		return node(api.NdHide, g.names(1), next())
	case 6:
		return node(api.NdLet, g.some(1, func() api.Node { return named(api.NdBind, g.word(), g.name(), g.expr()) }), next())
	case 7:
		return node(api.NdSome, g.decls(1), next())
	case 8:
		return node(api.NdPick, g.some(1, func() api.Node { return named(api.NdGate, g.word(), g.names(1)) }), next())
	case 9:
		return node(api.NdGuard, g.eqs(1), next())
	case 10:
		return numbered(api.NdWait, g.r.Intn(20), next())
	}
	return g.action(deep)
}

// P3.5, P3.6: behaviours are read back, with the least brackets.
func TestBehavioursReadBack(t *testing.T) {
	g := grower{newRandom(), table()}
	for range 1500 {
		n := g.behaviour(1 + g.r.Intn(4))
		s, err := show.Behaviour(n, g.ops)
		again, at, back := parse.Behaviour(s, g.ops)
		if err != api.OK || back != api.OK || !parse.Same(again, n) {
			t.Fatalf("Behaviour(%s): %q, error %d; read back: byte %d, error %d", written(n), s, err, at, back)
		}
		if len(s) < 400 {
			checkLeast(t, s, parse.Behaviour, g.ops, n)
		}
	}
}

// padded puts pairs of brackets around parts of a behaviour, as the places of its tree say where these are.
func padded(r *rand.Rand, text string, n api.Node) string {
	type mark struct {
		at int
		s  string
	}
	var marks []mark
	everyNode(n, func(x api.Node) {
		isPart := x.Kind >= api.NdStop && x.Kind <= api.NdWait || x.Kind == api.NdApp || x.Kind == api.NdOf
		if isPart && x.End > x.At && r.Intn(6) == 0 {
			marks = append(marks, mark{x.At, " ( "}, mark{x.End, " ) "})
		}
	})
	slices.SortStableFunc(marks, func(a, b mark) int { return b.at - a.at })
	for _, m := range marks {
		text = text[:m.at] + m.s + text[m.at:]
	}
	return text
}

// P3.7: what is read of a text with more brackets has no more tokens than that text, and is the same as without them.
func TestMoreBrackets(t *testing.T) {
	g := grower{newRandom(), table()}
	changed := 0
	for range 1500 {
		tree := g.behaviour(1 + g.r.Intn(4))
		s, err := show.Behaviour(tree, g.ops)
		placed, _, back := parse.Behaviour(s, g.ops)
		if err != api.OK || back != api.OK {
			t.Fatalf("Behaviour(%s): %q, error %d; read back: error %d", written(tree), s, err, back)
		}
		text := padded(g.r, s, placed)
		n, _, err := parse.Behaviour(text, g.ops)
		if err != api.OK {
			continue
		}
		again, err := show.Behaviour(n, g.ops)
		if err != api.OK || len(mustTokens(t, again)) > len(mustTokens(t, text)) {
			t.Fatalf("%q is written as %q, error %d", text, again, err)
		}
		if parse.Same(n, tree) {
			changed++
			if again != s {
				t.Fatalf("%q and %q are the same tree", again, s)
			}
		}
	}
	if changed < 1000 {
		t.Errorf("%d texts with more brackets", changed)
	}
}

// behaviourTexts returns all ways to write a behaviour of a few kinds, with one pair of brackets around some parts.
func behaviourTexts(n api.Node) []string {
	var l []string
	two := func(a api.Node, sign string, b api.Node) {
		for _, x := range behaviourTexts(a) {
			for _, y := range behaviourTexts(b) {
				l = append(l, x+" "+sign+" "+y)
			}
		}
	}
	ahead := func(words string, a api.Node) {
		for _, x := range behaviourTexts(a) {
			l = append(l, words+" "+x)
		}
	}
	switch n.Kind {
	case api.NdStop:
		l = append(l, "stop")
	case api.NdPre:
		ahead("a;", n.L[4])
	case api.NdHide:
		ahead("hide a in", n.L[1])
	case api.NdChoice:
		two(n.L[0], "[]", n.L[1])
	case api.NdPar:
		two(n.L[1], "||", n.L[2])
	case api.NdDisable:
		two(n.L[0], "[>", n.L[1])
	case api.NdEnable:
		two(n.L[1], ">>", n.L[2])
	}
	for _, s := range slices.Clone(l) {
		l = append(l, "("+s+")")
	}
	return l
}

// P3.7: no way to set brackets in a behaviour has fewer tokens.
func TestFewestTokensOfBehaviours(t *testing.T) {
	r := newRandom()
	var grow func(deep int) api.Node
	grow = func(deep int) api.Node {
		k := r.Intn(7)
		if deep == 0 {
			k = 6
		}
		switch k {
		case 0:
			return pre("a", grow(deep-1))
		case 1:
			return hide("a", grow(deep-1))
		case 2:
			return choice(grow(deep-1), grow(deep-1))
		case 3:
			return par("||", "", grow(deep-1), grow(deep-1))
		case 4:
			return disable(grow(deep-1), grow(deep-1))
		case 5:
			return enable(grow(deep-1), grow(deep-1))
		}
		return stop()
	}
	for range 400 {
		n := grow(1 + r.Intn(3))
		all := behaviourTexts(n)
		if len(all) > 300 {
			continue
		}
		s, err := show.Behaviour(n, nil)
		size := len(mustTokens(t, s))
		if !slices.ContainsFunc(all, func(x string) bool { return mustJoin(t, mustTokens(t, x)) == s }) || err != api.OK {
			t.Fatalf("Behaviour(%s): %q, error %d", written(n), s, err)
		}
		for _, x := range all {
			if again, _, err := parse.Behaviour(x, nil); err == api.OK && parse.Same(again, n) && len(mustTokens(t, x)) < size {
				t.Fatalf("Behaviour(%s): %q, not %q", written(n), s, x)
			}
		}
	}
}

// isBracketed reports whether a text stands in one pair of brackets.
func isBracketed(text string) bool {
	open := 0
	for i, c := range text {
		switch c {
		case '(':
			open++
		case ')':
			open--
		}
		if open == 0 {
			return c == ')' && i == len(text)-1
		}
	}
	return false
}

// P3.12: what stands in brackets within a behaviour is written as its own text.
func TestTextsOfParts(t *testing.T) {
	g := grower{newRandom(), table()}
	parts := 0
	for range 800 {
		n := g.behaviour(1 + g.r.Intn(4))
		s, err := show.Behaviour(n, g.ops)
		placed, _, back := parse.Behaviour(s, g.ops)
		if err != api.OK || back != api.OK {
			t.Fatalf("Behaviour(%s): %q, error %d; read back: error %d", written(n), s, err, back)
		}
		everyNode(placed, func(x api.Node) {
			if x.Kind < api.NdStop || x.Kind > api.NdWait || !isBracketed(s[x.At:x.End]) {
				return
			}
			parts++
			own, err := show.Behaviour(x, g.ops)
			if inner := strings.TrimSpace(s[x.At+1 : x.End-1]); err != api.OK || own != inner {
				t.Fatalf("%q within %q is %q alone, error %d", inner, s, own, err)
			}
		})
	}
	if parts < 500 {
		t.Errorf("%d parts in brackets", parts)
	}
}
