package show_test

import (
	"math/rand"
	"slices"
	"strconv"
	"strings"
	"testing"

	"madrigal/api"
	"madrigal/lex"
	"madrigal/parse"
)

// table returns the operations of the chapter's examples.
func table() []api.Mix {
	return []api.Mix{
		{Parts: []string{"+"}, Left: true, Right: true, Prio: 5, Side: api.SideLeft},
		{Parts: []string{"*"}, Left: true, Right: true, Prio: 6, Side: api.SideLeft},
		{Parts: []string{"^"}, Left: true, Right: true, Prio: 7, Side: api.SideRight},
		{Parts: []string{"<"}, Left: true, Right: true, Prio: 3},
		{Parts: []string{"-"}, Right: true, Prio: 6},
		{Parts: []string{"%"}, Left: true, Prio: 8},
		{Parts: []string{"if", "then", "else"}, Right: true, Prio: 1},
	}
}

// Trees without places.

func app(s string, l ...api.Node) api.Node { return api.Node{Kind: api.NdApp, S: s, L: l} }

func of(s string, n api.Node) api.Node { return api.Node{Kind: api.NdOf, S: s, L: []api.Node{n}} }

func node(kind int, l ...api.Node) api.Node { return api.Node{Kind: kind, L: l} }

func named(kind int, s string, l ...api.Node) api.Node { return api.Node{Kind: kind, S: s, L: l} }

func numbered(kind, n int, l ...api.Node) api.Node { return api.Node{Kind: kind, N: n, L: l} }

func list(l ...api.Node) api.Node { return node(api.NdList, l...) }

func name(s string) api.Node { return named(api.NdName, s) }

func names(s string) api.Node {
	l := list()
	for _, x := range strings.Fields(s) {
		l.L = append(l.L, name(x))
	}
	return l
}

// typed makes nodes of a kind of words like x:nat.
func typed(kind int, s string) api.Node {
	l := list()
	for _, x := range strings.Fields(s) {
		a, b, _ := strings.Cut(x, ":")
		l.L = append(l.L, named(kind, a, name(b)))
	}
	return l
}

func decls(s string) api.Node { return typed(api.NdDecl, s) }

func eq(a, b api.Node) api.Node { return node(api.NdEq, a, b) }

func give(n api.Node) api.Node { return node(api.NdGive, n) }

func take(s, sort string) api.Node { return named(api.NdTake, s, name(sort)) }

func anyOf(sort string) api.Node { return node(api.NdAny, name(sort)) }

func win(n int, s string) api.Node { return numbered(api.NdWin, n, names(s).L...) }

func stop() api.Node { return node(api.NdStop) }

func call(s string) api.Node { return named(api.NdCall, s, list(), list()) }

func pre(gate string, behind api.Node) api.Node { return action(gate, list(), list(), list(), behind) }

func action(gate string, offers, conds, windows, behind api.Node) api.Node {
	return node(api.NdPre, name(gate), offers, conds, windows, behind)
}

func choice(a, b api.Node) api.Node { return node(api.NdChoice, a, b) }

func enable(a, b api.Node) api.Node { return node(api.NdEnable, list(), a, b) }

func disable(a, b api.Node) api.Node { return node(api.NdDisable, a, b) }

func par(sign, gates string, a, b api.Node) api.Node {
	return named(api.NdPar, sign, names(gates), a, b)
}

func hide(gates string, n api.Node) api.Node { return node(api.NdHide, names(gates), n) }

// Terms.

func v(n int) api.Term { return api.Term{Kind: api.KVar, N: n} }

func o(n int, l ...api.Term) api.Term { return api.Term{Kind: api.KOp, N: n, L: l} }

// written writes a tree out, for messages.
func written(n api.Node) string {
	s := strconv.Itoa(n.Kind)
	if n.N != 0 {
		s += "#" + strconv.Itoa(n.N)
	}
	if n.S != "" {
		s += "'" + n.S + "'"
	}
	if len(n.L) > 0 {
		s += "("
		for i, x := range n.L {
			if i > 0 {
				s += " "
			}
			s += written(x)
		}
		s += ")"
	}
	return s
}

func newRandom() *rand.Rand { return rand.New(rand.NewSource(3)) }

// mustTokens cuts a text that is right; the tokens have no places.
func mustTokens(t *testing.T, text string) []api.Token {
	t.Helper()
	l, _, err := lex.Tokens(text)
	if err != api.OK {
		t.Fatalf("Tokens(%q): error %d", text, err)
	}
	for i := range l {
		l[i].At, l[i].End = 0, 0
	}
	return l
}

func mustJoin(t *testing.T, l []api.Token) string {
	t.Helper()
	s, err := lex.Join(l)
	if err != api.OK {
		t.Fatalf("Join(%v): error %d", l, err)
	}
	return s
}

func spelled(t api.Token) string {
	if t.Kind == api.TkNum {
		return strconv.Itoa(t.N)
	}
	return t.S
}

// isBare reports whether a tree has no places.
func isBare(n api.Node) bool {
	return n.At == 0 && n.End == 0 && !slices.ContainsFunc(n.L, func(x api.Node) bool { return !isBare(x) })
}

// everyNode calls a function for each node of a tree.
func everyNode(n api.Node, do func(api.Node)) {
	do(n)
	for _, x := range n.L {
		everyNode(x, do)
	}
}

// sharesMemory reports whether two lists of a tree are one.
func sharesMemory(n api.Node) bool {
	shared := false
	known := map[*api.Node]bool{}
	everyNode(n, func(x api.Node) {
		if len(x.L) > 0 {
			shared = shared || known[&x.L[0]]
			known[&x.L[0]] = true
		}
	})
	return shared
}

// pairs returns the brackets ( and ) that belong together.
func pairs(l []api.Token) [][2]int {
	var out [][2]int
	var open []int
	for i, x := range l {
		switch x.S {
		case "(":
			open = append(open, i)
		case ")":
			out = append(out, [2]int{open[len(open)-1], i})
			open = open[:len(open)-1]
		}
	}
	return out
}

// without returns tokens but for two of them.
func without(l []api.Token, x [2]int) []api.Token {
	return slices.Concat(l[:x[0]], l[x[0]+1:x[1]], l[x[1]+1:])
}

// reader reads a text by operations.
type reader func(text string, ops []api.Mix) (api.Node, int, api.Errno)

// checkLeast checks that no pair of brackets can be taken out of a text, so that it is the same tree.
func checkLeast(t *testing.T, text string, read reader, ops []api.Mix, n api.Node) {
	t.Helper()
	l := mustTokens(t, text)
	for _, x := range pairs(l) {
		s := mustJoin(t, without(l, x))
		if again, _, err := read(s, ops); err == api.OK && parse.Same(again, n) {
			t.Fatalf("%q is the same tree as %q", s, text)
		}
	}
}
