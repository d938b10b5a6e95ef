package parse_test

import (
	"math/rand"
	"slices"
	"strconv"
	"strings"
	"testing"

	"madrigal/api"
	"madrigal/lex"
	"madrigal/parse"
)

// table returns the operations of the chapter's examples.
func table() []api.Mix {
	return []api.Mix{
		{Parts: []string{"+"}, Left: true, Right: true, Prio: 5, Side: api.SideLeft},
		{Parts: []string{"*"}, Left: true, Right: true, Prio: 6, Side: api.SideLeft},
		{Parts: []string{"^"}, Left: true, Right: true, Prio: 7, Side: api.SideRight},
		{Parts: []string{"<"}, Left: true, Right: true, Prio: 3},
		{Parts: []string{"-"}, Right: true, Prio: 6},
		{Parts: []string{"%"}, Left: true, Prio: 8},
		{Parts: []string{"if", "then", "else"}, Right: true, Prio: 1},
	}
}

// Trees without places.

func app(s string, l ...api.Node) api.Node { return api.Node{Kind: api.NdApp, S: s, L: l} }

func of(s string, n api.Node) api.Node { return api.Node{Kind: api.NdOf, S: s, L: []api.Node{n}} }

func node(kind int, l ...api.Node) api.Node { return api.Node{Kind: kind, L: l} }

func named(kind int, s string, l ...api.Node) api.Node { return api.Node{Kind: kind, S: s, L: l} }

func numbered(kind, n int, l ...api.Node) api.Node { return api.Node{Kind: kind, N: n, L: l} }

func list(l ...api.Node) api.Node { return node(api.NdList, l...) }

func name(s string) api.Node { return named(api.NdName, s) }

func names(s string) api.Node {
	l := list()
	for _, x := range strings.Fields(s) {
		l.L = append(l.L, name(x))
	}
	return l
}

// decls makes names that share a sort.
func decls(s, sort string) api.Node {
	l := list()
	for _, x := range strings.Fields(s) {
		l.L = append(l.L, named(api.NdDecl, x, name(sort)))
	}
	return l
}

func eq(a, b api.Node) api.Node { return node(api.NdEq, a, b) }

func stop() api.Node { return node(api.NdStop) }

func call(s string) api.Node { return named(api.NdCall, s, list(), list()) }

func pre(gate string, behind api.Node) api.Node {
	return node(api.NdPre, name(gate), list(), list(), list(), behind)
}

// form writes a tree out, for messages.
func form(n api.Node) string {
	var b strings.Builder
	b.WriteString(strconv.Itoa(n.Kind))
	if n.N != 0 {
		b.WriteString("#" + strconv.Itoa(n.N))
	}
	if n.S != "" {
		b.WriteString("'" + n.S + "'")
	}
	b.WriteString("@" + strconv.Itoa(n.At) + "-" + strconv.Itoa(n.End))
	if len(n.L) > 0 {
		b.WriteString("(")
		for i, x := range n.L {
			if i > 0 {
				b.WriteString(" ")
			}
			b.WriteString(form(x))
		}
		b.WriteString(")")
	}
	return b.String()
}

// equal reports whether two trees are equal, also in their places.
func equal(a, b api.Node) bool {
	return a.Kind == b.Kind && a.N == b.N && a.S == b.S && a.At == b.At && a.End == b.End && slices.EqualFunc(a.L, b.L, equal)
}

func newRandom() *rand.Rand { return rand.New(rand.NewSource(7)) }

// mustTokens cuts a text that is right.
func mustTokens(t *testing.T, text string) []api.Token {
	t.Helper()
	l, _, err := lex.Tokens(text)
	if err != api.OK {
		t.Fatalf("Tokens(%q): error %d", text, err)
	}
	return l
}

// reading is one of the functions that read.
type reading struct {
	what string
	read func(text string) (api.Node, int, api.Errno)
}

func readings() []reading {
	return []reading{
		{"Parse", parse.Parse},
		{"Behaviour", func(text string) (api.Node, int, api.Errno) { return parse.Behaviour(text, table()) }},
		{"Expr", func(text string) (api.Node, int, api.Errno) { return parse.Expr(text, table()) }},
	}
}

// mustRead reads a text that is right.
func mustRead(t *testing.T, r reading, text string) api.Node {
	t.Helper()
	n, at, err := r.read(text)
	if err != api.OK || at != 0 {
		t.Fatalf("%s(%.2000q): byte %d, error %d", r.what, text, at, err)
	}
	return n
}

// refused checks that a text is refused at a byte.
func refused(t *testing.T, r reading, text string, at int, err api.Errno) {
	t.Helper()
	n, at2, err2 := r.read(text)
	if at2 != at || err2 != err || !equal(n, api.Node{}) {
		t.Errorf("%s(%.2000q): %.200s, byte %d, error %d; want byte %d, error %d", r.what, text, form(n), at2, err2, at, err)
	}
}

// everyNode calls a function for each node of a tree.
func everyNode(n api.Node, do func(api.Node)) {
	do(n)
	for _, x := range n.L {
		everyNode(x, do)
	}
}

func spell(t api.Token) string {
	if t.Kind == api.TkNum {
		return strconv.Itoa(t.N)
	}
	return t.S
}

// spread writes tokens with blanks and comments between.
func spread(r *rand.Rand, l []api.Token) string {
	var b strings.Builder
	gap := func() {
		b.WriteString([]string{" ", "  ", "\n", "\t", " (* a *) ", "(**)", "(* (* ; *) stop *)"}[r.Intn(7)])
	}
	for _, x := range l {
		gap()
		if x.Kind == api.TkNum && r.Intn(3) == 0 {
			b.WriteString("00")
		}
		b.WriteString(spell(x))
	}
	gap()
	return b.String()
}
