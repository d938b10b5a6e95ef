package show_test

import (
	"slices"
	"strconv"
	"strings"
	"testing"

	"madrigal/api"
	"madrigal/parse"
	"madrigal/show"
)

func mustParse(t *testing.T, text string) api.Node {
	t.Helper()
	n, at, err := parse.Parse(text)
	if err != api.OK {
		t.Fatalf("Parse(%q): byte %d, error %d", text, at, err)
	}
	return n
}

// whole is a text in which each rule occurs, and what it is when its lists are written one by one.
const (
	whole = `specification spec (* all *) [a, b] (n, m : nat, k : bool) : exit (nat, bool)
library l, m endlib library k endlib
type nat is bool, l
  formalsorts f, g formalopns x, _#_ (3 right), y : f, g -> f 1 : -> g formaleqns forall v : f, w : g ofsort f (v # w) = v; ofsort g 01 = 1;
  sorts nat, int opns 0 : -> nat s, - _ (6), _ + _ (5 left) : nat -> nat _ * _, _ ~ (9) : -> nat if _ then _ (9 left) : nat -> nat
  eqns forall x, y : nat, z : int ofsort nat x = y, z + x = y => x + (y + z) = (x * y); ofsort nat ofsort int if x then (- y) = (0); x = x;
endtype
type empty is endtype type uses is nat, empty endtype
type r is nat renamedby sortnames num for nat opnnames 0 for 1 _ @ _ for _ + _ endtype type r is nat renamedby endtype
type u is nat actualizedby bool, nat using sortnames a for b opnnames x for y z for 7 endtype type u is nat actualizedby bool using endtype
behaviour (P [a, b] (0 + 0 * 0)) >> accept x, y : nat in (stop)
where
type w is endtype
process P [g] (x, y : nat) : noexit := (g ? u, v : nat; (stop [] stop)) where process Q : exit := exit endproc endproc
process R : exit (nat) := hide g in stop where process S : noexit := stop endproc type x is endtype endproc
endspec`
	tight = `specification spec[a,b](n:nat,m:nat,k:bool):exit(nat,bool)library l,m endlib library k endlib ` +
		`type nat is bool,l formalsorts f,g formalopns x:f,g->f_#_(3 right):f,g->f y:f,g->f 1:->g formaleqns forall v:f,w:g ofsort f v#w=v;ofsort g 1=1;` +
		`sorts nat,int opns 0:->nat s:nat->nat-_(6):nat->nat_+_(5 left):nat->nat_*_:->nat_~:->nat if_then_(9 left):nat->nat ` +
		`eqns forall x:nat,y:nat,z:int ofsort nat x=y,z+x=y=>x+(y+z)=x*y;ofsort nat ofsort int if x then(-y)=0;x=x;endtype ` +
		`type empty is endtype type uses is nat,empty endtype ` +
		`type r is nat renamedby sortnames num for nat opnnames 0 for 1_@_for_+_endtype type r is nat renamedby endtype ` +
		`type u is nat actualizedby bool,nat using sortnames a for b opnnames x for y z for 7 endtype type u is nat actualizedby bool using endtype ` +
		`behaviour P[a,b](0+0*0)>>accept x:nat,y:nat in stop ` +
		`where type w is endtype ` +
		`process P[g](x:nat,y:nat):noexit:=g?u:nat?v:nat;(stop[]stop)where process Q:exit:=exit endproc endproc ` +
		`process R:exit(nat):=hide g in stop where process S:noexit:=stop endproc type x is endtype endproc endspec`
)

// P3.1, P3.5, P3.7: a text in which each rule occurs.
func TestText(t *testing.T) {
	n := mustParse(t, whole)
	s, err := show.Text(n)
	if err != api.OK || s != tight {
		t.Errorf("Text: error %d\n%s\nwant\n%s", err, s, tight)
	}
	if again := mustParse(t, s); !parse.Same(again, n) {
		t.Errorf("read back: %s\nwant %s", written(again), written(n))
	}
	if bare, err := show.Text(parse.Bare(n)); bare != s || err != api.OK {
		t.Errorf("Text without places: %q, error %d", bare, err)
	}
	for _, x := range []string{
		"specification x:noexit behaviour stop endspec", "specification x[a]:exit behaviour exit endspec", "specification x(a:b):exit behaviour exit endspec", "specification x:noexit library a endlib behaviour stop endspec",
	} {
		if s, err := show.Text(mustParse(t, x)); s != x || err != api.OK {
			t.Errorf("Text of the tree of %q: %q, error %d", x, s, err)
		}
	}
	where := mustParse(t, "specification x : noexit behaviour stop where endspec")
	if s, err := show.Text(where); s != "specification x:noexit behaviour stop endspec" || err != api.OK {
		t.Errorf("Text without types and processes: %q, error %d", s, err)
	}
}

// P3.1, P3.2: what is no tree of a text.
func TestWrongTexts(t *testing.T) {
	n := mustParse(t, whole[:strings.Index(whole, "library")]+"behaviour exit (0, any bool) endspec")
	broken := parse.Bare(n)
	broken.L[3].L = []api.Node{stop()}
	conflict := mustParse(t, "specification x:noexit type t is opns _then_,if_then_,c: ->s endtype behaviour exit(c) endspec")
	conflict.L[4].L[0].L[0] = app("if_then_", app("c"), app("c"))
	for _, x := range []api.Node{{}, stop(), app("a"), list(), broken, named(api.NdSpec, "x"), conflict} {
		if s, err := show.Text(x); s != "" || err != api.ErrTree {
			t.Errorf("Text(%s): %q, error %d", written(x), s, err)
		}
		if s, err := show.Lay(x, 80); s != "" || err != api.ErrTree {
			t.Errorf("Lay(%s): %q, error %d", written(x), s, err)
		}
		if s, err := show.Lay(x, 19); s != "" || err != api.ErrWidth {
			t.Errorf("Lay(%s) in 19 bytes: %q, error %d", written(x), s, err)
		}
	}
}

// sharing is a text with variables that share a sort, and so is much longer when they are written one by one.
func sharing(names [2]string, sort string, vars int, main string) string {
	return "specification " + names[0] + ":noexit type " + names[1] + " is eqns forall " + strings.Repeat("a,", vars-1) + "a:" + sort + " ofsort s endtype behaviour " + main + "stop endspec"
}

// checkLimit checks that a text, and it in lines, is within the limits.
func checkLimit(t *testing.T, what, text string, asText, inLines api.Errno) {
	t.Helper()
	n := mustParse(t, text)
	if s, err := show.Text(n); err != asText || err != api.OK && s != "" || err == api.OK && !parse.Same(mustParse(t, s), n) {
		t.Errorf("%s: Text: %d bytes, error %d", what, len(s), err)
	}
	if s, err := show.Lay(n, 1000); err != inLines || err != api.OK && s != "" || err == api.OK && !parse.Same(mustParse(t, s), n) {
		t.Errorf("%s: Lay: %d bytes, error %d", what, len(s), err)
	}
}

// P3.1, P3.2: limits of tokens.
func TestTooManyTokens(t *testing.T) {
	s, _ := show.Text(mustParse(t, sharing([2]string{"x", "t"}, "s", 4900, "")))
	left := 20000 - len(mustTokens(t, s))
	if left < 100 || left%2 != 0 {
		t.Fatal(left)
	}
	checkLimit(t, "20000 tokens", sharing([2]string{"x", "t"}, "s", 4900, strings.Repeat("a;", left/2)), api.OK, api.OK)
	checkLimit(t, "20001 tokens", sharing([2]string{"x", "t"}, "s", 4900, "wait 7;"+strings.Repeat("a;", left/2-1)), api.ErrLimit, api.ErrLimit)
	checkLimit(t, "39000 tokens", sharing([2]string{"x", "t"}, "s", 9700, ""), api.ErrLimit, api.ErrLimit)
}

// P3.1, P3.2: limits of bytes; blanks ahead of lines count, too.
func TestTooManyBytes(t *testing.T) {
	text := func(vars, extra int) string {
		first := min(extra, 31)
		names := [2]string{strings.Repeat("x", 1+first), strings.Repeat("t", 1+extra-first)}
		return sharing(names, strings.Repeat("s", 32), vars, "")
	}
	// most returns a text of which a function writes 100000 bytes, and one with one more.
	most := func(write func(api.Node) (string, api.Errno)) (string, string) {
		for vars := 2780; ; {
			s, err := write(mustParse(t, text(vars, 0)))
			left := 100000 - len(s)
			if err != api.OK {
				t.Fatal(vars, err)
			}
			if left < 62 {
				return text(vars, left), text(vars, left+1)
			}
			vars += max(1, left/40)
		}
	}
	fits, over := most(show.Text)
	checkLimit(t, "100000 bytes", fits, api.OK, api.ErrLimit)
	checkLimit(t, "100001 bytes", over, api.ErrLimit, api.ErrLimit)
	fits, over = most(func(n api.Node) (string, api.Errno) { return show.Lay(n, 1000) })
	checkLimit(t, "100000 bytes in lines", fits, api.OK, api.OK)
	checkLimit(t, "100001 bytes in lines", over, api.OK, api.ErrLimit)
}

func (g grower) sortsAndOps() []api.Node {
	return []api.Node{g.names(0), g.some(0, g.declared), g.some(0, g.equations), g.names(0)}
}

// declared makes the declaration of an operation, one of the list of operations or another one.
func (g grower) declared() api.Node {
	n := api.Node{Kind: api.NdOp, S: []string{"a", "succ", "0", "+", "70"}[g.r.Intn(5)], N: 36}
	if g.chance() {
		n = declaration(g.ops[g.r.Intn(len(g.ops))])
	}
	n.L = []api.Node{g.names(0), g.name()}
	return n
}

// declaration is an NdOp without sorts.
func declaration(m api.Mix) api.Node {
	s, _ := parse.MixName(m)
	return api.Node{Kind: api.NdOp, S: s, N: 4*m.Prio + m.Side}
}

func (g grower) equations() api.Node {
	return named(api.NdEqns, g.word(), g.decls(0), g.some(0, func() api.Node {
		return node(api.NdEqn, g.eqs(0), eq(g.expr(), g.expr()))
	}))
}

func (g grower) change() api.Node {
	words := []string{"a", "_+_", "if_then_", "<", "0", "b_"}
	// A Shape takes a name that follows its last _, so what begins with a name or a _ cannot follow that one.
	return node(api.NdTo, name(strconv.Itoa(g.r.Intn(20))), name(words[g.r.Intn(len(words))]))
}

func (g grower) dataType() api.Node {
	switch g.r.Intn(4) {
	case 0:
		return named(api.NdRename, g.word(), g.name(), g.some(0, g.change), g.some(0, g.change))
	case 1:
		return named(api.NdActual, g.word(), g.name(), g.names(1), g.some(0, g.change), g.some(0, g.change))
	}
	return named(api.NdType, g.word(), slices.Concat([]api.Node{g.names(0)}, g.sortsAndOps(), g.sortsAndOps()[1:3])...)
}

// declaring makes a type that declares all operations.
func (g grower) declaring() api.Node {
	ops := list()
	for _, m := range g.ops {
		n := declaration(m)
		n.L = []api.Node{g.names(0), g.name()}
		ops.L = append(ops.L, n)
	}
	return named(api.NdType, g.word(), list(), list(), list(), list(), list(), ops, list())
}

func (g grower) function() api.Node {
	if g.chance() {
		return node(api.NdFunc)
	}
	return numbered(api.NdFunc, 1, g.names(0).L...)
}

func (g grower) specification() api.Node {
	units := g.some(0, func() api.Node {
		if g.r.Intn(3) == 0 {
			return node(api.NdLib, g.names(1).L...)
		}
		return g.dataType()
	})
	units.L = append(units.L, g.declaring())
	return named(api.NdSpec, g.word(), g.names(0), g.decls(0), g.function(), units, g.behaviour(3), g.where(2))
}

func (g grower) where(deep int) api.Node {
	if deep == 0 {
		return list()
	}
	return g.some(0, func() api.Node {
		if g.chance() {
			return g.dataType()
		}
		return named(api.NdProc, g.word(), g.names(0), g.decls(0), g.function(), g.behaviour(2), g.where(deep-1))
	})
}

// P3.5, P3.7: texts are read back, and what is read of a text with more brackets has no more tokens.
func TestTextsReadBack(t *testing.T) {
	g := grower{newRandom(), table()}
	for range 300 {
		n := g.specification()
		s, err := show.Text(n)
		placed, at, back := parse.Parse(s)
		if err != api.OK || back != api.OK || !parse.Same(placed, n) {
			t.Fatalf("Text(%s): %q, error %d; read back: byte %d, error %d", written(n), s, err, at, back)
		}
		text := padded(g.r, s, placed)
		if other, _, err := parse.Parse(text); err == api.OK {
			again, err := show.Text(other)
			if err != api.OK || len(mustTokens(t, again)) > len(mustTokens(t, text)) || parse.Same(other, n) && again != s {
				t.Fatalf("%q is written as %q, error %d", text, again, err)
			}
		}
	}
}
