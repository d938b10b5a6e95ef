package show_test

import (
	"math/rand"
	"slices"
	"strconv"
	"strings"
	"testing"

	"madrigal/api"
	"madrigal/parse"
	"madrigal/show"
)

// op is an operation of so many arguments of the first sort.
func op(name string, args, res int) api.Op {
	return api.Op{Name: name, Args: make([]int, args), Res: res}
}

func sig(ops ...api.Op) api.Sig { return api.Sig{Sorts: []string{"nat", "int"}, Ops: ops} }

// numbers is a signature with operations of all kinds, of which some share names.
func numbers() api.Sig {
	return sig(op("0", 0, 0), op("s", 1, 0), op("_+_", 2, 0), op("c", 0, 0), op("c", 0, 1), op("c", 1, 0), op("-_", 1, 0), op("_%", 1, 0), op("if_then_else_", 3, 0), op("<_>", 1, 1), op("_+_", 2, 1), op("**", 2, 0), op("**", 2, 1), op("v0", 0, 0), op("x0", 0, 1), op("17", 0, 1), op("17", 0, 0))
}

func mix(name string, left, right bool, parts ...string) api.Mix {
	return api.Mix{Parts: parts, Left: left, Right: right, Prio: 9}
}

func sameMix(a, b api.Mix) bool {
	return slices.Equal(a.Parts, b.Parts) && a.Left == b.Left && a.Right == b.Right && a.Prio == b.Prio && a.Side == b.Side
}

// P3.3: operations that can be read.
func TestMixes(t *testing.T) {
	long := strings.Repeat("a", 32)
	for _, x := range []struct {
		s    api.Sig
		want []api.Mix
	}{
		{api.Sig{}, nil},
		{numbers(), []api.Mix{mix("_+_", true, true, "+"), mix("-_", false, true, "-"), mix("_%", true, false, "%"), mix("if_then_else_", false, true, "if", "then", "else"), mix("<_>", false, false, "<", ">")}},
		{sig(op("_b_", 2, 0), op("_a", 1, 0), op("_b_", 2, 1), op("b_", 1, 0)), []api.Mix{mix("_b_", true, true, "b"), mix("_a", true, false, "a"), mix("b_", false, true, "b")}},
		{sig(op("_a_b_c_d_e_f_g_h_", 9, 0)), []api.Mix{mix("", true, true, "a", "b", "c", "d", "e", "f", "g", "h")}},
		{sig(op("_+_", 2, 7), op("+", 5, -3), op("2147483647", 0, 0), op(long, 0, 0), op("==", 0, 0)), []api.Mix{mix("", true, true, "+")}},
		{sig(op("a", 0, 0), op("a", 0, 0)), nil}, {api.Sig{Sorts: []string{"a", "a", long}}, nil},
		{sig(op("_then_", 2, 0), op("if_then_", 2, 0), op("then", 0, 0), op("else", 0, 0)), []api.Mix{mix("", true, true, "then"), mix("", false, true, "if", "then")}},
	} {
		l, err := show.Mixes(x.s)
		if err != api.OK || !slices.EqualFunc(l, x.want, sameMix) {
			t.Errorf("Mixes(%v): %v, error %d; want %v", x.s, l, err, x.want)
		}
	}
}

// noSignatures are signatures whose operations cannot be read.
func noSignatures() []api.Sig {
	var l []api.Sig
	for _, sort := range []string{"", "i", "stop", "+", "0", "a b", "a_b", "_", strings.Repeat("a", 33), " a", "(**)a"} {
		l = append(l, api.Sig{Sorts: []string{"nat", sort}})
	}
	for _, o := range []api.Op{
		op("", 0, 0), op("stop", 0, 0), op("i", 0, 0), op("of", 0, 0), op("=", 0, 0), op("->", 2, 0), op("(", 0, 0), op("|", 0, 0), op("a b", 0, 0), op("a+", 0, 0), op(strings.Repeat("a", 33), 0, 0),
		op("00", 0, 0), op("07", 0, 0), op("2147483648", 0, 0), op("99999999999999999999", 0, 0), op("-1", 0, 0), op("0", 1, 0), op("12", 2, 0), op("1a", 0, 0),
		op("_", 1, 0), op("__", 2, 0), op("___", 3, 0), op("a__b", 2, 0), op("__a", 2, 0), op("a__", 2, 0), op("_1_", 2, 0), op("_=_", 2, 0), op("_stop", 1, 0), op("_a b", 1, 0), op("_a+_", 2, 0), op("a_b_c_d_e_f_g_h_i", 8, 0),
		op("_+_", 0, 0), op("_+_", 1, 0), op("_+_", 3, 0), op("-_", 0, 0), op("-_", 2, 0), op("_%", 2, 0), op("a_b", 0, 0), op("a_b", 2, 0),
	} {
		l = append(l, sig(o), sig(op("0", 0, 0), o))
	}
	l = append(l, sig(op("if_then_", 2, 0), op("if", 0, 0)), sig(op("if", 1, 0), op("if_then_", 2, 0)), sig(op("+", 2, 0), op("+_", 1, 0)))
	l = append(l, sig(op("_+_", 2, 0), op("_+", 1, 0)), sig(op("a_b", 1, 0), op("a_c", 1, 0)), sig(op("_+_", 2, 0), op("_+_", 1, 0)), sig(op("_+_", 2, 0), op("_+_", 3, 1)))
	var many []api.Op
	for i := range 257 {
		many = append(many, op("_a"+strconv.Itoa(i), 1, 0))
	}
	return append(l, sig(many...))
}

// P3.3, P3.4: what cannot be read is found first by each function.
func TestWrongSignatures(t *testing.T) {
	for _, s := range noSignatures() {
		bad := api.Beh{Kind: api.BRel}
		if l, err := show.Mixes(s); len(l) != 0 || err != api.ErrNames {
			t.Errorf("Mixes(%v): %v, error %d", s, l, err)
		}
		if n, err := show.TermTree(s, nil, o(-1)); !parse.Same(n, api.Node{}) || err != api.ErrNames {
			t.Errorf("TermTree over %v: error %d", s, err)
		}
		if w, err := show.Term(s, nil, o(-1)); w != "" || err != api.ErrNames {
			t.Errorf("Term over %v: error %d", s, err)
		}
		if w, err := show.Label(s, nil, api.Label{Gate: 7}); w != "" || err != api.ErrNames {
			t.Errorf("Label over %v: error %d", s, err)
		}
		spec := api.Spec{Type: api.Type{Sig: s}, Main: bad}
		if n, err := show.BehTree(spec, nil, nil, bad); !parse.Same(n, api.Node{}) || err != api.ErrNames {
			t.Errorf("BehTree over %v: error %d", s, err)
		}
		if n, err := show.SpecTree(spec); !parse.Same(n, api.Node{}) || err != api.ErrNames {
			t.Errorf("SpecTree over %v: error %d", s, err)
		}
		if w, err := show.Spec(spec); w != "" || err != api.ErrNames {
			t.Errorf("Spec over %v: error %d", s, err)
		}
	}
	var most []api.Op
	for i := range 256 {
		most = append(most, op("_a"+strconv.Itoa(i), 1, 0))
	}
	if l, err := show.Mixes(sig(most...)); len(l) != 256 || err != api.OK {
		t.Errorf("256 operations: %d, error %d", len(l), err)
	}
}

// P3.3: terms as trees, and as texts.
func TestTerms(t *testing.T) {
	s := numbers()
	zero := o(0)
	plus := func(a, b api.Term) api.Term { return o(2, a, b) }
	plusTree := func(a, b api.Node) api.Node { return of("nat", app("_+_", a, b)) }
	for _, x := range []struct {
		t    api.Term
		tree api.Node
		text string
	}{
		{zero, app("0"), "0"}, {v(0), app("x"), "x"}, {v(1), app("s"), "s"}, {o(1, v(2)), app("s", app("then")), "s(then)"},
		{o(3), of("nat", app("c")), "c of nat"}, {o(4), of("int", app("c")), "c of int"}, {o(5, o(4)), app("c", of("int", app("c"))), "c(c of int)"},
		{plus(zero, v(0)), plusTree(app("0"), app("x")), "(0+x)of nat"}, {o(10, zero, zero), of("int", app("_+_", app("0"), app("0"))), "(0+0)of int"}, {plus(plus(zero, zero), zero), plusTree(plusTree(app("0"), app("0")), app("0")), "((0+0)of nat+0)of nat"},
		{o(6, o(6, zero)), app("-_", app("-_", app("0"))), "- -0"}, {o(7, o(6, zero)), app("_%", app("-_", app("0"))), "(-0)%"}, {o(6, o(7, zero)), app("-_", app("_%", app("0"))), "-0%"}, {o(7, o(7, zero)), app("_%", app("_%", app("0"))), "(0%)%"},
		{o(8, zero, v(2), o(6, zero)), app("if_then_else_", app("0"), app("then"), app("-_", app("0"))), "if 0 then then else-0"}, {o(9, o(6, zero)), app("<_>", app("-_", app("0"))), "< -0>"},
		{o(11, zero, zero), of("nat", app("**", app("0"), app("0"))), "**(0,0)of nat"}, {o(12, zero, o(1, zero)), of("int", app("**", app("0"), app("s", app("0")))), "**(0,s(0))of int"}, {o(15), of("int", app("17")), "17 of int"}, {o(16), of("nat", app("17")), "17 of nat"}, {o(13), app("v0"), "v0"},
	} {
		vars := []string{"x", "s", "then"}
		n, err := show.TermTree(s, vars, x.t)
		if err != api.OK || !parse.Same(n, x.tree) || !isBare(n) {
			t.Errorf("TermTree of %v: %s, error %d; want %s", x.t, written(n), err, written(x.tree))
		}
		if w, err := show.Term(s, vars, x.t); err != api.OK || w != x.text {
			t.Errorf("Term of %v: %q, error %d; want %q", x.t, w, err, x.text)
		}
	}
	one := sig(op("0", 0, 0), op("s", 1, 0), op("_+_", 2, 0))
	for text, x := range map[string]api.Term{"s(x)+0": o(2, o(1, v(0)), zero), "(0+0)+0": o(2, o(2, zero, zero), zero), "0+(0+0)": o(2, zero, o(2, zero, zero))} {
		if w, err := show.Term(one, []string{"x"}, x); err != api.OK || w != text {
			t.Errorf("Term of %v: %q, error %d; want %q", x, w, err, text)
		}
	}
}

// P3.3: names of variables.
func TestNamesOfVariables(t *testing.T) {
	s := numbers()
	var many []string
	for i := range 65 {
		many = append(many, "y"+strconv.Itoa(i))
	}
	for _, x := range []struct {
		vars []string
		err  api.Errno
	}{
		{nil, api.OK}, {many[:64], api.OK}, {many, api.ErrNames}, {[]string{"s", "then", "else", "x", "y'", "tick", strings.Repeat("a", 32)}, api.OK},
		{[]string{"c"}, api.ErrNames}, {[]string{"v0"}, api.ErrNames}, {[]string{"if"}, api.ErrNames}, {[]string{"x", "y", "x"}, api.ErrNames}, {[]string{""}, api.ErrNames}, {[]string{"x", "+"}, api.ErrNames}, {[]string{"0"}, api.ErrNames}, {[]string{"7"}, api.ErrNames}, {[]string{"i"}, api.ErrNames}, {[]string{"stop"}, api.ErrNames}, {[]string{"a b"}, api.ErrNames}, {[]string{" a"}, api.ErrNames}, {[]string{strings.Repeat("a", 33)}, api.ErrNames},
	} {
		for _, term := range []api.Term{o(0), o(99), v(-1)} {
			want := x.err
			if term.N != 0 && want == api.OK {
				want = api.ErrTerm
			}
			n, err := show.TermTree(s, x.vars, term)
			w, err2 := show.Term(s, x.vars, term)
			if err != want || err2 != want || want != api.OK && (w != "" || !parse.Same(n, api.Node{})) {
				t.Errorf("%v with the variables %v: %s, %d; %q, %d", term, x.vars, written(n), err, w, err2)
			}
		}
		want := x.err
		if n, err := show.BehTree(api.Spec{Type: api.Type{Sig: s}}, nil, x.vars, api.Beh{Kind: api.BStop}); err != want || want != api.OK && !parse.Same(n, api.Node{}) {
			t.Errorf("BehTree with the variables %v: %d", x.vars, err)
		}
	}
}

// P3.3: what is no term that can be written.
func TestWrongTerms(t *testing.T) {
	s := numbers()
	s.Ops = append(s.Ops, op("d", 0, 2), op("d", 0, -1), op("lost", 0, 9))
	for _, x := range []api.Term{
		{}, {Kind: 3}, {Kind: -1}, v(-1), v(2), v(1 << 40), {Kind: api.KVar, L: []api.Term{o(0)}}, o(-1), o(20), o(1 << 40), o(0, o(0)), o(1), o(1, o(0), o(0)), o(2, o(0)), o(17), o(18),
	} {
		for _, y := range []api.Term{x, o(1, x), o(2, x, o(0)), o(2, o(0), x), o(8, o(0), o(0), o(1, x)), o(9, x)} {
			if n, err := show.TermTree(s, []string{"x", "y"}, y); err != api.ErrTerm || !parse.Same(n, api.Node{}) {
				t.Errorf("TermTree of %v: %s, error %d", y, written(n), err)
			}
			if w, err := show.Term(s, []string{"x", "y"}, y); err != api.ErrTerm || w != "" {
				t.Errorf("Term of %v: %q, error %d", y, w, err)
			}
			if w, err := show.Label(s, []string{"a"}, api.Label{Vals: []api.Term{o(0), y}}); err != api.ErrTerm || w != "" {
				t.Errorf("Label of %v: %q, error %d", y, w, err)
			}
		}
	}
	if w, err := show.Term(s, nil, o(19)); w != "lost" || err != api.OK {
		t.Errorf("a sort that is not written: %q, error %d", w, err)
	}
}

// nested returns a term so deep.
func nested(n, operation int) api.Term {
	x := o(0)
	for range n - 1 {
		x = o(operation, x)
	}
	return x
}

// P3.3: limits of terms.
func TestLimitsOfTerms(t *testing.T) {
	long := strings.Repeat("a", 32)
	s := sig(op("0", 0, 0), op("s", 1, 0), op("t", 1, 0), op("t", 1, 1), op(long, 0, 0))
	wide := func(n, of int) api.Term {
		for len(s.Ops) < 6 || len(s.Ops[len(s.Ops)-1].Args) != n {
			s.Ops = append(s.Ops, op("w", n, 0))
			s.Ops[len(s.Ops)-1].Name += strconv.Itoa(len(s.Ops))
		}
		return o(len(s.Ops)-1, slices.Repeat([]api.Term{o(of)}, n)...)
	}
	cyclic := o(1, o(0))
	cyclic.L[0] = cyclic
	for _, x := range []struct {
		what       string
		t          api.Term
		tree, text api.Errno
	}{
		{"400 deep", nested(400, 1), api.OK, api.OK}, {"401 deep", nested(401, 1), api.ErrLimit, api.ErrLimit}, {"70000 deep", nested(70000, 1), api.ErrLimit, api.ErrLimit}, {"a cycle", cyclic, api.ErrLimit, api.ErrLimit},
		{"200 deep, and a sort for each but one", nested(200, 2), api.OK, api.OK}, {"400 deep with sorts", o(2, nested(200, 2)), api.ErrLimit, api.ErrLimit},
		{"60000 nodes", wide(59999, 0), api.OK, api.ErrLimit}, {"60001 nodes", wide(60000, 0), api.ErrLimit, api.ErrLimit},
		{"20000 tokens", wide(9999, 0), api.OK, api.OK}, {"20002 tokens", wide(10000, 0), api.OK, api.ErrLimit},
		{"100000 bytes", wide(3030, 4), api.OK, api.OK}, {"100023 bytes", wide(3031, 4), api.OK, api.ErrLimit},
	} {
		if n, err := show.TermTree(s, nil, x.t); err != x.tree || err != api.OK && !parse.Same(n, api.Node{}) {
			t.Errorf("%s: TermTree: error %d", x.what, err)
		}
		if w, err := show.Term(s, nil, x.t); err != x.text || err != api.OK && w != "" {
			t.Errorf("%s: Term: %d bytes, error %d", x.what, len(w), err)
		}
		if w, err := show.Label(s, []string{"a"}, api.Label{Vals: []api.Term{x.t}}); err != api.OK && w != "" || x.text != api.OK && err != x.text {
			t.Errorf("%s: Label: %d bytes, error %d", x.what, len(w), err)
		}
	}
	for n, want := range map[int]api.Errno{9999: api.OK, 10000: api.ErrLimit} {
		if _, err := show.Label(s, []string{"a"}, api.Label{Vals: slices.Repeat([]api.Term{o(0)}, n)}); err != want {
			t.Errorf("a label with %d values: error %d", n, err)
		}
	}
}

// P3.3: labels.
func TestLabels(t *testing.T) {
	s := numbers()
	var many []string
	for i := range 33 {
		many = append(many, "y"+strconv.Itoa(i))
	}
	gates := []string{"a", "tick", "c"}
	label := func(gate int, l ...api.Term) api.Label { return api.Label{Gate: gate, Vals: l} }
	for _, x := range []struct {
		gates []string
		l     api.Label
		want  string
		err   api.Errno
	}{
		{gates, label(0), "a", api.OK}, {gates, label(1), "tick", api.OK}, {gates, label(2, o(0), o(1, o(0))), "c!0!s(0)", api.OK}, {gates, label(0, o(6, o(0)), o(2, o(0), o(4))), "a!-0!(0+c of int)of nat", api.OK},
		{gates, label(api.GInt), "i", api.OK}, {nil, label(api.GExit), "exit", api.OK}, {nil, label(api.GExit, o(0), o(4)), "exit!0!c of int", api.OK}, {nil, label(api.GTick), "tick", api.OK},
		{gates, label(3), "", api.ErrArg}, {gates, label(-4), "", api.ErrArg}, {nil, label(0), "", api.ErrArg}, {gates, label(1 << 62), "", api.ErrArg}, {gates, label(-1 << 63), "", api.ErrArg},
		{gates, label(0, v(0)), "", api.ErrTerm}, {gates, label(api.GInt, o(99)), "", api.ErrTerm}, {gates, label(0, o(0), o(1)), "", api.ErrTerm},
		{many[:32], label(31), "y31", api.OK}, {many, label(0), "", api.ErrNames}, {[]string{"a", "a"}, label(0), "", api.ErrNames}, {[]string{"a", "i"}, label(9, o(99)), "", api.ErrNames}, {[]string{"exit"}, label(0), "", api.ErrNames}, {[]string{"+"}, label(0), "", api.ErrNames}, {[]string{""}, label(0), "", api.ErrNames}, {[]string{"0"}, label(0), "", api.ErrNames}, {[]string{"a b"}, label(0), "", api.ErrNames}, {[]string{strings.Repeat("a", 33)}, label(0), "", api.ErrNames},
	} {
		if w, err := show.Label(s, x.gates, x.l); w != x.want || err != x.err {
			t.Errorf("Label of %v with %v: %q, error %d; want %q, %d", x.l, x.gates, w, err, x.want, x.err)
		}
	}
}

// anyTerm returns a term with the sorts of its parts as they come.
func anyTerm(r *rand.Rand, s api.Sig, vars, deep int) api.Term {
	for {
		if vars > 0 && r.Intn(4) == 0 {
			return v(r.Intn(vars))
		}
		n := r.Intn(len(s.Ops))
		if deep == 0 && len(s.Ops[n].Args) > 0 {
			continue
		}
		x := o(n)
		for range s.Ops[n].Args {
			x.L = append(x.L, anyTerm(r, s, vars, deep-1))
		}
		return x
	}
}

// decoded returns the term that a tree stands for, over a signature whose operations differ by name, number of arguments and sort.
func decoded(s api.Sig, vars []string, n api.Node) api.Term {
	sort := -1
	if n.Kind == api.NdOf {
		sort, n = slices.Index(s.Sorts, n.S), n.L[0]
	}
	if i := slices.Index(vars, n.S); i >= 0 && len(n.L) == 0 {
		return v(i)
	}
	x := o(slices.IndexFunc(s.Ops, func(o api.Op) bool {
		return o.Name == n.S && len(o.Args) == len(n.L) && (sort < 0 || o.Res == sort)
	}))
	for _, y := range n.L {
		x.L = append(x.L, decoded(s, vars, y))
	}
	return x
}

func sameTerm(a, b api.Term) bool {
	return a.Kind == b.Kind && a.N == b.N && slices.EqualFunc(a.L, b.L, sameTerm)
}

// P3.9: trees of terms tell the terms, and are read back.
func TestTermsReadBack(t *testing.T) {
	r := newRandom()
	s := numbers()
	vars := []string{"x", "s", "then", "y'"}
	mixes, _ := show.Mixes(s)
	for range 2000 {
		x := anyTerm(r, s, len(vars), r.Intn(5))
		n, err := show.TermTree(s, vars, x)
		if err != api.OK || !sameTerm(decoded(s, vars, n), x) || !isBare(n) || sharesMemory(n) {
			t.Fatalf("TermTree of %v: %s, error %d", x, written(n), err)
		}
		w, err := show.Term(s, vars, x)
		byExpr, err2 := show.Expr(n, mixes)
		if again, at, back := parse.Expr(w, mixes); err != api.OK || err2 != api.OK || w != byExpr || back != api.OK || !parse.Same(again, n) {
			t.Fatalf("Term of %v: %q, error %d (Expr: %q, %d); read back: byte %d, error %d", x, w, err, byExpr, err2, at, back)
		}
		l, err := show.Label(s, []string{"a"}, api.Label{Vals: []api.Term{o(0), x}})
		if w, wrong := show.Term(s, nil, x); wrong == api.OK && (err != api.OK || l != mustJoin(t, mustTokens(t, "a ! 0 ! "+w))) || wrong != err {
			t.Fatalf("Label of %v: %q, error %d", x, l, err)
		}
	}
}

// anySig returns a signature whose operations can be read, with parts that are easily mixed up.
func anySig(r *rand.Rand) api.Sig {
	for {
		s := sig(op("c", 0, 0), op("f", 1, 0))
		for range 1 + r.Intn(4) {
			var parts []string
			for range 1 + r.Intn(3) {
				parts = append(parts, []string{"+", "*", "t", "u"}[r.Intn(4)])
			}
			name := []string{"", "_"}[r.Intn(2)] + strings.Join(parts, "_") + []string{"", "_"}[r.Intn(2)]
			s.Ops = append(s.Ops, op(name, strings.Count(name, "_"), r.Intn(2)))
		}
		if _, err := show.Mixes(s); err == api.OK {
			return s
		}
	}
}

// P3.9: what Term, Label and Spec return is read back; they return an error just where no text is read as the tree.
func TestTermsThatNoTextIsReadAs(t *testing.T) {
	r := newRandom()
	written, lost := 0, 0
	for range 2500 {
		s := anySig(r)
		mixes, _ := show.Mixes(s)
		x := anyTerm(r, s, 0, 2)
		n, err := show.TermTree(s, nil, x)
		if nodes, _ := parse.Size(n); err != api.OK || nodes > 6 {
			continue
		}
		isTree := func(text string) bool {
			again, _, err := parse.Expr(text, mixes)
			return err == api.OK && parse.Same(again, n)
		}
		w, err := show.Term(s, nil, x)
		label, err2 := show.Label(s, nil, api.Label{Gate: api.GTick, Vals: []api.Term{o(0), x}})
		spec, err3 := show.Spec(api.Spec{Type: api.Type{Sig: s, Eqns: []api.Eqn{{A: x, B: x}}}, Main: beh(api.BStop)})
		if slices.ContainsFunc(bracketings(mixes, n), isTree) {
			written++
			if err != api.OK || !isTree(w) || err2 != api.OK || label != mustJoin(t, mustTokens(t, "tick!c!"+w)) || err3 != api.OK || parse.Check(mustParse(t, spec)) != api.OK {
				t.Fatalf("%v over %v: %q, error %d; %q, error %d; %q, error %d", x, s, w, err, label, err2, spec, err3)
			}
			continue
		}
		lost++
		if err != api.ErrTerm || w != "" || err2 != api.ErrTerm || label != "" || err3 != api.ErrSpec || spec != "" {
			t.Fatalf("%v over %v: %q, error %d; %q, error %d; %q, error %d", x, s, w, err, label, err2, spec, err3)
		}
	}
	if written < 300 || lost < 100 {
		t.Errorf("%d terms are written, %d are lost", written, lost)
	}
}
