package parse_test

import (
	"strings"
	"testing"

	"madrigal/api"
	"madrigal/parse"
)

// P2.1: the behaviours of the chapter's examples, and of each rule.
func TestBehaviours(t *testing.T) {
	cond := list(eq(app("x"), app("y")))
	par := func(sign string, gates, a, b api.Node) api.Node { return named(api.NdPar, sign, gates, a, b) }
	none := list()
	choice := func(a, b api.Node) api.Node { return node(api.NdChoice, a, b) }
	take := func(s, sort string) api.Node { return named(api.NdTake, s, name(sort)) }
	give := func(n api.Node) api.Node { return node(api.NdGive, n) }
	windows := func(form int, s string) api.Node { return list(numbered(api.NdWin, form, names(s).L...)) }
	for _, x := range []shown{
		{"a; b; stop [] c; stop", choice(pre("a", pre("b", stop())), pre("c", stop()))}, {"P[a] ||| Q >> R", node(api.NdEnable, none, par("|||", none, named(api.NdCall, "P", names("a"), none), call("Q")), call("R"))},
		{"g !x ?y : nat [x = y] {2..5}; stop", node(api.NdPre, name("g"), list(give(app("x")), take("y", "nat")), cond, windows(3, "2 5"), stop())},
		{"hide a in a; stop |[a]| stop", node(api.NdHide, names("a"), par("|[", names("a"), pre("a", stop()), stop()))}, {"[x = y] -> a; stop [] stop", choice(node(api.NdGuard, cond, pre("a", stop())), stop())},
		{"P", call("P")}, {"P [a, b] (x, y + x)", named(api.NdCall, "P", names("a b"), list(app("x"), app("_+_", app("y"), app("x"))))}, {"P(x)", named(api.NdCall, "P", none, list(app("x")))}, {"P[]Q", choice(call("P"), call("Q"))}, {"P[a][]Q", choice(named(api.NdCall, "P", names("a"), none), call("Q"))},
		{"i; stop", pre("i", stop())}, {"i !x; stop", node(api.NdPre, name("i"), list(give(app("x"))), none, none, stop())}, {"i {3}; stop", node(api.NdPre, name("i"), none, none, windows(1, "3"), stop())}, {"a {03..}; P", node(api.NdPre, name("a"), none, none, windows(2, "3"), call("P"))}, {"a {5 .. 002}; P", node(api.NdPre, name("a"), none, none, windows(3, "5 2"), call("P"))},
		{"a ?x, y : s !f(x) ?z : t; stop", node(api.NdPre, name("a"), list(take("x", "s"), take("y", "s"), give(app("f", app("x"))), take("z", "t")), none, none, stop())}, {"a !x of s [x = y, y = x]; stop", node(api.NdPre, name("a"), list(give(of("s", app("x")))), list(cond.L[0], eq(app("y"), app("x"))), none, stop())}, {"a !x * y < z; stop", node(api.NdPre, name("a"), list(give(app("_<_", app("_*_", app("x"), app("y")), app("z")))), none, none, stop())},
		{"wait 007; stop", numbered(api.NdWait, 7, stop())}, {"wait 0; wait 2147483647; P", numbered(api.NdWait, 0, numbered(api.NdWait, 2147483647, call("P")))},
		{"exit", node(api.NdExit)}, {"exit(x, any s, any t, 3)", node(api.NdExit, give(app("x")), node(api.NdAny, name("s")), node(api.NdAny, name("t")), give(app("3")))}, {"stop", stop()},
		{"stop >> accept x, y : s, z : t in P", node(api.NdEnable, list(append(decls("x y", "s").L, decls("z", "t").L...)...), stop(), call("P"))}, {"P >> Q >> R", node(api.NdEnable, none, call("P"), node(api.NdEnable, none, call("Q"), call("R")))}, {"P [> Q [> R", node(api.NdDisable, call("P"), node(api.NdDisable, call("Q"), call("R")))}, {"P [> Q >> R", node(api.NdEnable, none, node(api.NdDisable, call("P"), call("Q")), call("R"))}, {"P >> Q [> R", node(api.NdEnable, none, call("P"), node(api.NdDisable, call("Q"), call("R")))},
		{"P || Q |[a, b]| R", par("||", none, call("P"), par("|[", names("a b"), call("Q"), call("R")))}, {"P [] Q || R", par("||", none, choice(call("P"), call("Q")), call("R"))}, {"P || Q [] R", par("||", none, call("P"), choice(call("Q"), call("R")))}, {"P [] Q [] R", choice(call("P"), choice(call("Q"), call("R")))}, {"P ||| Q [> R", node(api.NdDisable, par("|||", none, call("P"), call("Q")), call("R"))},
		{"a; P >> Q", node(api.NdEnable, none, pre("a", call("P")), call("Q"))}, {"a; (P >> Q)", pre("a", node(api.NdEnable, none, call("P"), call("Q")))}, {"(P [] Q) [] R", choice(choice(call("P"), call("Q")), call("R"))}, {"((P))", call("P")}, {"(a; P)", pre("a", call("P"))},
		{"P [] hide a in Q [] R >> P", choice(call("P"), node(api.NdHide, names("a"), node(api.NdEnable, none, choice(call("Q"), call("R")), call("P"))))}, {"(hide a, b in P) || Q", par("||", none, node(api.NdHide, names("a b"), call("P")), call("Q"))}, {"[x = y] -> a; hide a in P [] Q", node(api.NdGuard, cond, pre("a", node(api.NdHide, names("a"), choice(call("P"), call("Q")))))},
		{"let x : s = y, y : t = x of t in P [] Q", node(api.NdLet, list(named(api.NdBind, "x", name("s"), app("y")), named(api.NdBind, "y", name("t"), of("t", app("x")))), choice(call("P"), call("Q")))},
		{"choice x, y : s, z : t [] P [] Q", node(api.NdSome, list(append(decls("x y", "s").L, decls("z", "t").L...)...), choice(call("P"), call("Q")))}, {"choice g in [a, b], h in [c] [] g; P", node(api.NdPick, list(named(api.NdGate, "g", names("a b")), named(api.NdGate, "h", names("c"))), pre("g", call("P")))}, {"choice left : right [] left", node(api.NdSome, decls("left", "right"), call("left"))},
	} {
		n, at, err := parse.Behaviour(x.text, table())
		if err != api.OK || at != 0 || !parse.Same(n, x.want) || n.At != 0 || n.End != len(x.text) {
			t.Errorf("Behaviour(%q): %s, byte %d, error %d; want %s", x.text, form(n), at, err, form(x.want))
		}
	}
}

// P2.1: places of nodes, also of those without tokens.
func TestPlaces(t *testing.T) {
	for _, x := range []struct{ text, want string }{
		{" P ", "32'P'@1-2(8@3-3 8@3-3)"},
		{"a;stop", "22@0-6(7'a'@0-1 8@1-1 8@1-1 8@1-1 20@2-6)"},
		{"a !x; ( stop )", "22@0-14(7'a'@0-1 8@2-4(40@2-4(50'x'@3-4)) 8@4-4 8@4-4 20@6-14)"},
		{"a ?x, y :s [x=y] {1 .. 2} ;P", "22@0-28(7'a'@0-1 8@3-7(41'x'@3-4(7's'@9-10) 41'y'@6-7(7's'@9-10)) 8@12-15(14@12-15(50'x'@12-13 50'y'@14-15)) 8@17-25(43#3@17-25(7'1'@18-19 7'2'@23-24)) 32'P'@27-28(8@28-28 8@28-28))"},
		{"P || Q", "24'||'@0-6(8@5-5 32'P'@0-1(8@2-2 8@2-2) 32'Q'@5-6(8@6-6 8@6-6))"},
		{"P |[a , b]| Q", "24'|['@0-13(8@4-9(7'a'@4-5 7'b'@8-9) 32'P'@0-1(8@2-2 8@2-2) 32'Q'@12-13(8@13-13 8@13-13))"},
		{"stop >>stop", "26@0-11(8@7-7 20@0-4 20@7-11)"},
		{"stop >> accept x,y:s in stop", "26@0-28(8@15-18(9'x'@15-16(7's'@19-20) 9'y'@17-18(7's'@19-20)) 20@0-4 20@24-28)"},
		{"P [a] (x, (y))", "32'P'@0-14(8@2-5(7'a'@3-4) 8@7-13(50'x'@7-8 50'y'@10-13))"},
		{"P (x)", "32'P'@0-5(8@2-2 8@3-4(50'x'@3-4))"},
		{"exit(any s,x)", "21@0-13(42@5-10(7's'@9-10) 40@11-12(50'x'@11-12))"},
		{"hide a,b in(stop)", "25@0-17(8@5-8(7'a'@5-6 7'b'@7-8) 20@11-17)"},
		{"choice g in[a] []stop", "31@0-21(8@7-14(45'g'@7-14(8@12-13(7'a'@12-13))) 20@17-21)"},
		{"choice g in [a, b], h in [c] [] P", "31@0-33(8@7-28(45'g'@7-18(8@13-17(7'a'@13-14 7'b'@16-17)) 45'h'@20-28(8@26-27(7'c'@26-27))) 32'P'@32-33(8@33-33 8@33-33))"},
		{"let x:s=1 in wait 2;stop", "29@0-24(8@4-9(44'x'@4-9(7's'@6-7 50'1'@8-9)) 33#2@13-24(20@20-24))"},
		{"[x=y]->stop[]stop", "23@0-17(28@0-11(8@1-4(14@1-4(50'x'@1-2 50'y'@3-4)) 20@7-11) 20@13-17)"},
	} {
		n, at, err := parse.Behaviour(x.text, nil)
		if err != api.OK || form(n) != x.want {
			t.Errorf("Behaviour(%q): byte %d, error %d\n%s, want\n%s", x.text, at, err, form(n), x.want)
		}
	}
	text := "specification x:noexit type t is sorts s opns _+_(5 left) ,0: ->s eqns ofsort s 0=0;0=0=>0=0; endtype behaviour stop where endspec "
	want := "1'x'@0-130(8@15-15 8@15-15 10@16-22 8@23-101(4't'@23-101(8@33-33 8@33-33 8@33-33 8@33-33 8@39-40(7's'@39-40) 8@46-60(11#21'_+_'@46-57(8@62-62 7's'@64-65) 11#36'0'@59-60(8@62-62 7's'@64-65)) 8@71-93(12's'@71-93(8@71-71 8@80-92(13@80-83(8@80-80 14@80-83(50'0'@80-81 50'0'@82-83)) 13@84-92(8@84-87(14@84-87(50'0'@84-85 50'0'@86-87)) 14@89-92(50'0'@89-90 50'0'@91-92))))))) 20@112-116 8@117-122)"
	if n, at, err := parse.Parse(text); err != api.OK || form(n) != want {
		t.Errorf("Parse(%q): byte %d, error %d\n%s, want\n%s", text, at, err, form(n), want)
	}
	text = "specification x[a](n:s):exit(s)library l,m endlib type r is b renamedby sortnames k for s opnnames _#_ for 0 endtype type u is b actualizedby c , d using endtype behaviour P(n)where process P(m:s):exit:=stop endproc endspec"
	want = "1'x'@0-223(8@15-18(7'a'@16-17) 8@18-23(9'n'@19-20(7's'@21-22)) 10#1@24-31(7's'@29-30) 8@31-161(3@31-49(7'l'@39-40 7'm'@41-42) 5'r'@50-116(7'b'@60-61 8@82-89(15@82-89(7'k'@82-83 7's'@88-89)) 8@99-108(15@99-108(7'_#_'@99-102 7'0'@107-108))) 6'u'@117-161(7'b'@127-128 8@142-147(7'c'@142-143 7'd'@146-147) 8@154-154 8@154-154)) 32'P'@172-176(8@173-173 8@174-175(50'n'@174-175)) 8@176-215(2'P'@182-215(8@191-191 8@191-196(9'm'@192-193(7's'@194-195)) 10#1@197-201 20@203-207 8@208-208)))"
	if n, at, err := parse.Parse(text); err != api.OK || form(n) != want {
		t.Errorf("Parse(%q): byte %d, error %d\n%s, want\n%s", text, at, err, form(n), want)
	}
}

// P2.1: the token of a behaviour's text at which no text goes on, and where an expression does not.
func TestWrongBehaviours(t *testing.T) {
	for _, x := range []struct {
		text string
		at   int
		err  api.Errno
	}{
		{"", 0, api.ErrSyntax}, {" ", 1, api.ErrSyntax}, {"(* *)", 5, api.ErrSyntax}, {"a; stop stop", 8, api.ErrSyntax}, {"g [x = y]; stop", 5, api.ErrSyntax}, {"g {1} [x = y]; stop", 6, api.ErrSyntax}, {"g [x] {1}; stop", 6, api.ErrSyntax}, {"i [x = y]; stop", 2, api.ErrSyntax}, {"i", 1, api.ErrSyntax}, {"i [] P", 2, api.ErrSyntax}, {"a;", 2, api.ErrSyntax}, {"a; >> stop", 3, api.ErrSyntax},
		{"P = Q", 2, api.ErrSyntax}, {"P []", 4, api.ErrSyntax}, {"P [", 3, api.ErrSyntax}, {"P []|", 4, api.ErrLex}, {"P [a", 4, api.ErrSyntax}, {"P [a,", 5, api.ErrSyntax}, {"P [a b]", 5, api.ErrSyntax}, {"P [1]", 3, api.ErrSyntax}, {"P [i]", 3, api.ErrSyntax}, {"P [a]|[b]| Q", 4, api.ErrSyntax}, {"P(x) [a]", 5, api.ErrSyntax}, {"P()", 2, api.ErrSyntax}, {"P(x", 3, api.ErrSyntax}, {"P(x,)", 4, api.ErrSyntax}, {"P(x;", 3, api.ErrSyntax}, {"P((x;", 4, api.ErrSyntax}, {"P((x", 4, api.ErrSyntax}, {"P((x)", 5, api.ErrSyntax}, {"P(x) Q", 5, api.ErrSyntax}, {"1; stop", 0, api.ErrSyntax}, {"+; stop", 0, api.ErrSyntax}, {"P)", 1, api.ErrSyntax}, {"(P", 2, api.ErrSyntax}, {"(P]", 2, api.ErrSyntax}, {"()", 1, api.ErrSyntax}, {"P endspec", 2, api.ErrSyntax}, {"type t is endtype", 0, api.ErrSyntax}, {"process", 0, api.ErrSyntax}, {"library", 0, api.ErrSyntax}, {"a; type t is endtype", 3, api.ErrSyntax},
		{"a !; stop", 3, api.ErrSyntax}, {"a !); stop", 3, api.ErrSyntax}, {"a !,x; stop", 3, api.ErrSyntax}, {"a !x, y; stop", 4, api.ErrSyntax}, {"a ?x; stop", 4, api.ErrSyntax}, {"a ?x :; stop", 6, api.ErrSyntax}, {"a ?1 : s; stop", 3, api.ErrSyntax}, {"a ?x, y z : s; stop", 8, api.ErrSyntax}, {"a ?x : s = y; stop", 9, api.ErrSyntax}, {"a !x [y]; stop", 7, api.ErrSyntax}, {"a !x []; stop", 5, api.ErrSyntax}, {"a !x [x = y] [x = y]; stop", 13, api.ErrSyntax}, {"a !x [x = y] !x; stop", 13, api.ErrSyntax}, {"a !x [x = y, ]; stop", 13, api.ErrSyntax},
		{"a {}; stop", 3, api.ErrSyntax}, {"a {x}; stop", 3, api.ErrSyntax}, {"a {3..2}", 8, api.ErrSyntax}, {"a {3..2..}; stop", 7, api.ErrSyntax}, {"a {3 2}; stop", 5, api.ErrSyntax}, {"a {..2}; stop", 3, api.ErrSyntax}, {"a {3} {4}; stop", 6, api.ErrSyntax}, {"a {3} !x; stop", 6, api.ErrSyntax}, {"a {3...4}; stop", 4, api.ErrSyntax}, {"a {-1}; stop", 3, api.ErrSyntax},
		{"wait x; stop", 5, api.ErrSyntax}, {"wait; stop", 4, api.ErrSyntax}, {"wait 3 stop", 7, api.ErrSyntax}, {"wait 3", 6, api.ErrSyntax}, {"wait -3; stop", 5, api.ErrSyntax}, {"wait 2147483648; stop", 5, api.ErrLex},
		{"hide in stop", 5, api.ErrSyntax}, {"hide a, in stop", 8, api.ErrSyntax}, {"hide a stop", 7, api.ErrSyntax}, {"hide a in", 9, api.ErrSyntax}, {"hide i in stop", 5, api.ErrSyntax}, {"let x = y in stop", 6, api.ErrSyntax}, {"let x, y : s = z in stop", 5, api.ErrSyntax}, {"let x : s = in stop", 12, api.ErrSyntax}, {"let x : s = y, in stop", 15, api.ErrSyntax}, {"let in stop", 4, api.ErrSyntax}, {"let x : s = y", 13, api.ErrSyntax}, {"let x : s = (y, z : s = a in stop", 18, api.ErrSyntax},
		{"choice a, b in [a] [] stop", 12, api.ErrSyntax}, {"choice a in [] [] stop", 12, api.ErrSyntax}, {"choice a in [b], c : s [] stop", 19, api.ErrSyntax}, {"choice a : s, b in [c] [] stop", 16, api.ErrSyntax}, {"choice a : s stop", 13, api.ErrSyntax}, {"choice a [] stop", 9, api.ErrSyntax}, {"choice [] stop", 7, api.ErrSyntax}, {"choice 1 in [a] [] stop", 7, api.ErrSyntax}, {"choice a in [b]", 15, api.ErrSyntax}, {"choice i in [b] [] stop", 7, api.ErrSyntax},
		{"exit(", 5, api.ErrSyntax}, {"exit()", 5, api.ErrSyntax}, {"exit(any)", 8, api.ErrSyntax}, {"exit(any s", 10, api.ErrSyntax}, {"exit(any s any t)", 11, api.ErrSyntax}, {"exit(x,)", 7, api.ErrSyntax}, {"exit[a]", 4, api.ErrSyntax}, {"exit; stop", 4, api.ErrSyntax}, {"stop; stop", 4, api.ErrSyntax}, {"exit(x any s)", 7, api.ErrSyntax},
		{"[x] -> stop", 2, api.ErrSyntax}, {"[x = y] stop", 8, api.ErrSyntax}, {"[x = y] ->", 10, api.ErrSyntax}, {"[] -> stop", 0, api.ErrSyntax}, {"[x = y = z] -> stop", 7, api.ErrSyntax}, {"[x = y] -> P [> Q [", 19, api.ErrSyntax}, {"[= y] -> stop", 1, api.ErrSyntax}, {"[x = ] -> stop", 5, api.ErrSyntax},
		{"stop >> accept in stop", 15, api.ErrSyntax}, {"stop >> accept x in stop", 17, api.ErrSyntax}, {"stop >> accept x : s stop", 21, api.ErrSyntax}, {"stop >> accept x : s, in stop", 22, api.ErrSyntax}, {"stop >>", 7, api.ErrSyntax}, {"stop accept", 5, api.ErrSyntax}, {"P |[]| Q", 4, api.ErrSyntax}, {"P |[ ]| Q", 5, api.ErrSyntax}, {"P |[a] Q", 5, api.ErrSyntax}, {"P |[a,]| Q", 6, api.ErrSyntax}, {"P ||| ||| Q", 6, api.ErrSyntax}, {"P || ", 5, api.ErrSyntax}, {"P => Q", 2, api.ErrSyntax}, {"P where", 2, api.ErrSyntax},
		{"a !x y; b stop", 10, api.ErrSyntax}, {"a !x y; b", 5, api.ErrExpr}, {"a !x y; b !", 11, api.ErrSyntax}, {"a !(x; stop", 5, api.ErrExpr}, {"let x : s = (a in stop", 15, api.ErrExpr}, {"let x : s = (a, b in stop", 14, api.ErrExpr}, {"[(x = y] -> stop", 4, api.ErrExpr}, {"[x = (y] -> stop", 7, api.ErrExpr}, {"P(a < b < c, - ^)", 8, api.ErrExpr}, {"P(a, b c, d e)", 7, api.ErrExpr}, {"a ?x : s !x - [y z = a]; stop", 12, api.ErrExpr}, {"exit(any s, x +)", 15, api.ErrExpr}, {"a !x of; stop", 7, api.ErrExpr}, {"exit(if)", 7, api.ErrExpr},
		{"a !x y; b |", 10, api.ErrLex}, {"P | Q", 2, api.ErrLex}, {strings.Repeat(";", 20001), 0, api.ErrLimit},
	} {
		refused(t, readings()[1], x.text, x.at, x.err)
	}
}

// P2.1: the token of a specification's text at which no text goes on.
func TestWrongSpecifications(t *testing.T) {
	for _, x := range []struct {
		text string // with a ^ ahead of the token that is too much
		err  api.Errno
	}{
		{"^", api.ErrSyntax}, {"^behaviour stop", api.ErrSyntax}, {"specification ^", api.ErrSyntax}, {"specification ^[a]", api.ErrSyntax}, {"specification x [a ^:", api.ErrSyntax}, {"specification x (a ^)", api.ErrSyntax}, {"specification x (^)", api.ErrSyntax}, {"specification x ^noexit", api.ErrSyntax}, {"specification x : ^behaviour", api.ErrSyntax}, {"specification x : exit ^[", api.ErrSyntax}, {"specification x : exit (^)", api.ErrSyntax}, {"specification x : noexit ^(s)", api.ErrSyntax}, {"specification x : noexit ^process", api.ErrSyntax}, {"specification x : noexit ^:=", api.ErrSyntax}, {"specification x (a : s) ^[", api.ErrSyntax},
		{"specification x : noexit library ^endlib", api.ErrSyntax}, {"specification x : noexit library a ^b", api.ErrSyntax}, {"specification x : noexit library a endlib ^endlib", api.ErrSyntax}, {"specification x : noexit behaviour ^endspec", api.ErrSyntax}, {"specification x : noexit behaviour stop ^", api.ErrSyntax}, {"specification x : noexit behaviour stop ^type", api.ErrSyntax}, {"specification x : noexit behaviour stop endspec ^stop", api.ErrSyntax}, {"specification x : noexit behaviour stop where ^library", api.ErrSyntax}, {"specification x : noexit behaviour stop where ^where", api.ErrSyntax}, {"specification x : noexit behaviour stop where ^endproc", api.ErrSyntax},
		{"specification x : noexit behaviour stop where process p : noexit ^behaviour", api.ErrSyntax}, {"specification x : noexit behaviour stop where process p : noexit := stop ^endspec", api.ErrSyntax}, {"specification x : noexit behaviour stop where process ^:", api.ErrSyntax}, {"specification x : noexit behaviour stop where process p : noexit := stop endproc ^;", api.ErrSyntax},
		{"specification x : noexit type ^is", api.ErrSyntax}, {"specification x : noexit type t ^sorts", api.ErrSyntax}, {"specification x : noexit type t is a, b ^renamedby", api.ErrSyntax}, {"specification x : noexit type t is ^renamedby", api.ErrSyntax}, {"specification x : noexit type t is a ^using", api.ErrSyntax}, {"specification x : noexit type t is a ^b", api.ErrSyntax}, {"specification x : noexit type t is a, ^sorts", api.ErrSyntax}, {"specification x : noexit type t is sorts ^opns", api.ErrSyntax}, {"specification x : noexit type t is sorts a ^sorts", api.ErrSyntax}, {"specification x : noexit type t is opns eqns ^opns", api.ErrSyntax}, {"specification x : noexit type t is sorts a ^formalsorts", api.ErrSyntax}, {"specification x : noexit type t is formaleqns ^formalopns", api.ErrSyntax}, {"specification x : noexit type t is ^endspec", api.ErrSyntax}, {"specification x : noexit type t is ^sortnames", api.ErrSyntax},
		{"specification x : noexit type t is a renamedby ^a", api.ErrSyntax}, {"specification x : noexit type t is a renamedby opnnames ^sortnames", api.ErrSyntax}, {"specification x : noexit type t is a renamedby sortnames a ^b", api.ErrSyntax}, {"specification x : noexit type t is a renamedby sortnames a for ^endtype", api.ErrSyntax}, {"specification x : noexit type t is a renamedby sortnames a for b ^,", api.ErrSyntax}, {"specification x : noexit type t is a renamedby sortnames a for b_c ^for", api.ErrSyntax}, {"specification x : noexit type t is a renamedby sortnames _ ^_", api.ErrSyntax}, {"specification x : noexit type t is a renamedby sortnames 1 ^_", api.ErrSyntax}, {"specification x : noexit type t is a renamedby sortnames a ^1", api.ErrSyntax}, {"specification x : noexit type t is a renamedby sortnames _a_ ^_", api.ErrSyntax}, {"specification x : noexit type t is a renamedby sortnames a ^(1)", api.ErrSyntax},
		{"specification x : noexit type t is a actualizedby ^using", api.ErrSyntax}, {"specification x : noexit type t is a actualizedby b ^sortnames", api.ErrSyntax}, {"specification x : noexit type t is a actualizedby b ^endtype", api.ErrSyntax}, {"specification x : noexit type t is a actualizedby b using ^b", api.ErrSyntax},
		{"specification x : noexit type t is opns a ^b", api.ErrSyntax}, {"specification x : noexit type t is opns a ^(5)", api.ErrSyntax}, {"specification x : noexit type t is opns 0 ^(5)", api.ErrSyntax}, {"specification x : noexit type t is opns 0 ^_", api.ErrSyntax}, {"specification x : noexit type t is opns _ ^: s", api.ErrSyntax}, {"specification x : noexit type t is opns _ ^_", api.ErrSyntax}, {"specification x : noexit type t is opns _ ^1", api.ErrSyntax}, {"specification x : noexit type t is opns _a ^b", api.ErrSyntax}, {"specification x : noexit type t is opns _a_ ^_", api.ErrSyntax}, {"specification x : noexit type t is opns _a_ ^stop", api.ErrSyntax}, {"specification x : noexit type t is opns ^stop", api.ErrSyntax}, {"specification x : noexit type t is opns ^, a", api.ErrSyntax},
		{"specification x : noexit type t is opns _a (^)", api.ErrSyntax}, {"specification x : noexit type t is opns _a (^0)", api.ErrSyntax}, {"specification x : noexit type t is opns _a (^10)", api.ErrSyntax}, {"specification x : noexit type t is opns _a (^left)", api.ErrSyntax}, {"specification x : noexit type t is opns _a (1 ^none)", api.ErrSyntax}, {"specification x : noexit type t is opns _a (1 left ^right)", api.ErrSyntax}, {"specification x : noexit type t is opns _a (1 ^, left)", api.ErrSyntax}, {"specification x : noexit type t is opns _a (1) ^(1)", api.ErrSyntax}, {"specification x : noexit type t is opns _a (1) ^_", api.ErrSyntax},
		{"specification x : noexit type t is opns a, ^: -> s", api.ErrSyntax}, {"specification x : noexit type t is opns a : s ^a", api.ErrSyntax}, {"specification x : noexit type t is opns a : s, ^-> s", api.ErrSyntax}, {"specification x : noexit type t is opns a : -> ^1", api.ErrSyntax}, {"specification x : noexit type t is opns a : -> s ^, s", api.ErrSyntax}, {"specification x : noexit type t is opns a : ^1 -> s", api.ErrSyntax},
		{"specification x : noexit type t is eqns ^a = b", api.ErrSyntax}, {"specification x : noexit type t is eqns forall ^ofsort", api.ErrSyntax}, {"specification x : noexit type t is eqns forall a ^ofsort", api.ErrSyntax}, {"specification x : noexit type t is eqns forall a : s ^a", api.ErrSyntax}, {"specification x : noexit type t is eqns forall a : s, ^ofsort", api.ErrSyntax}, {"specification x : noexit type t is eqns forall a : s ^forall", api.ErrSyntax}, {"specification x : noexit type t is eqns ofsort ^;", api.ErrSyntax}, {"specification x : noexit type t is eqns ofsort s ^;", api.ErrSyntax}, {"specification x : noexit type t is eqns ofsort s a ^;", api.ErrSyntax}, {"specification x : noexit type t is eqns ofsort s a = ^;", api.ErrSyntax}, {"specification x : noexit type t is eqns ofsort s a = b ^endtype", api.ErrSyntax}, {"specification x : noexit type t is eqns ofsort s a = b ^= c", api.ErrSyntax}, {"specification x : noexit type t is eqns ofsort s a = b, c = d ^;", api.ErrSyntax}, {"specification x : noexit type t is eqns ofsort s a = b => c = d ^,", api.ErrSyntax}, {"specification x : noexit type t is eqns ofsort s a = b => c = d ^=>", api.ErrSyntax}, {"specification x : noexit type t is eqns ofsort s a = b => ^=> c", api.ErrSyntax}, {"specification x : noexit type t is eqns ofsort s a = b; ^; c", api.ErrSyntax}, {"specification x : noexit type t is eqns ofsort s ^=> a = b", api.ErrSyntax}, {"specification x : noexit type t is eqns ofsort s ^, a", api.ErrSyntax}, {"specification x : noexit type t is eqns ofsort s a ^, b", api.ErrSyntax},
		{"specification x : noexit type t is opns a b ^|", api.ErrLex}, {"specification x : noexit ^(* type", api.ErrLex},
	} {
		text := strings.Replace(x.text, "^", "", 1)
		refused(t, readings()[0], text, strings.Index(x.text, "^"), x.err)
	}
}

// specified puts equations, and what declares operations, into a text.
func specified(opns, eqns string) string {
	return "specification x:noexit type t is opns " + opns + " eqns ofsort s " + eqns + " endtype behaviour stop endspec"
}

// P2.1: which error comes first.
func TestOrderOfErrors(t *testing.T) {
	r := readings()[0]
	mixed := "_+_ (3): -> s _+_: -> s"
	refused(t, r, specified(mixed, "a b = c;")+" |", len(specified(mixed, "a b = c;"))+1, api.ErrLex)
	refused(t, r, specified(mixed, "a b = c;")+" ;", len(specified(mixed, "a b = c;"))+1, api.ErrSyntax)
	refused(t, r, specified(mixed, "a b = c;"), 0, api.ErrMix)
	refused(t, r, specified("", "a b = c; d = e f;"), strings.Index(specified("", "a b"), "a b")+2, api.ErrExpr)
	refused(t, r, specified("", "a = b (c; d = e f;"), strings.Index(specified("", "a = b (c"), "b (c")+4, api.ErrExpr)
	deep := strings.Repeat("f(", 400) + "a" + strings.Repeat(")", 400)
	refused(t, r, specified("", deep+" = b; c d = e;"), strings.Index(specified("", deep+" = b; c d = e;"), "c d")+2, api.ErrExpr)
	refused(t, r, specified("", deep+" = b;"), 0, api.ErrLimit)
	refused(t, r, specified(mixed, deep+" = b;"), 0, api.ErrMix)
	mustRead(t, r, specified("_+_ (3): -> s _+_ (3): s -> s +_ (4 left): -> s", "a + b = + c;"))
	refused(t, r, specified("_+_ (3): -> s _+_ (3 left): s -> s", "a = b;"), 0, api.ErrMix)
	refused(t, r, specified("_+_: -> s _+: s -> s", "a = b;"), 0, api.ErrMix)
	refused(t, r, specified("a_b_c_d_e_f_g_h_j: -> s", "a = b;"), 0, api.ErrMix)
	mustRead(t, r, specified("a_b_c_d_e_f_g_h: -> s", "x = y;"))
	many := func(n int) string {
		s := ""
		for i := range n {
			s += strings.Repeat("a", i%16+1) + strings.Repeat("b", i/16) + "_, "
		}
		return s + "a : -> s"
	}
	mustRead(t, r, specified(many(256), "x = y;"))
	refused(t, r, specified(many(257), "x = y;"), 0, api.ErrMix)
}

// P2.1: operations that are declared anywhere are known everywhere.
func TestDeclaredOperations(t *testing.T) {
	text := "specification x : noexit type t is eqns ofsort s a + b ! c - = d; endtype behaviour P(a + b) where process P : noexit := stop where type u is formalopns _+_ (2) : -> s endtype endproc type v is opns _~_- : -> s endtype endspec"
	refused(t, readings()[0], text, strings.Index(text, "!"), api.ErrSyntax)
	text = strings.Replace(text, "!", "~", 1)
	n := mustRead(t, readings()[0], text)
	if want := app("_+_", app("a"), app("_~_-", app("b"), app("c"))); !parse.Same(n.L[3].L[0].L[6].L[0].L[1].L[0].L[1].L[0], want) {
		t.Errorf("Parse(%q): %s", text, form(n))
	}
	if want := app("_+_", app("a"), app("b")); !parse.Same(n.L[4].L[1].L[0], want) {
		t.Errorf("Parse(%q): %s", text, form(n))
	}
}

// P2.1: the limits of texts and of trees.
func TestLimitsOfTexts(t *testing.T) {
	r := readings()[1]
	mustRead(t, r, strings.Repeat("a;", 399)+"stop")
	refused(t, r, strings.Repeat("a;", 400)+"stop", 0, api.ErrLimit)
	refused(t, r, strings.Repeat("a;", 9999)+"stop", 0, api.ErrLimit)
	refused(t, r, strings.Repeat("a;", 9999)+"stop |", 20003, api.ErrLex)
	refused(t, r, strings.Repeat("a;", 9999)+"stop;", 20002, api.ErrSyntax)
	mustRead(t, r, strings.Repeat("(", 9999)+"stop"+strings.Repeat(")", 9999))
	refused(t, r, strings.Repeat("(", 20000), 20000, api.ErrSyntax)
	mustRead(t, r, "stop"+strings.Repeat("[]stop", 399))
	refused(t, r, "stop"+strings.Repeat(">>stop", 400), 0, api.ErrLimit)
	mustRead(t, r, "stop"+strings.Repeat(">>P", 398))
	refused(t, r, "stop"+strings.Repeat(">>P", 399), 0, api.ErrLimit)

	all := func(shapes, args int, more string) string {
		return specified(strings.Repeat("a,", shapes-1)+"a:"+strings.Repeat("s,", args-1)+"s->s"+more, "")
	}
	for _, x := range []struct {
		names, args int
		more        string
		nodes, deep int
		err         api.Errno
	}{
		{1, 1, "", 22, 7, api.OK}, {2, 3, "", 30, 7, api.OK},
		{199, 297, strings.Repeat(" b:->s", 94), 60000, 7, api.OK}, {199, 297, strings.Repeat(" b:->s", 93) + " b:s->s", 0, 0, api.ErrLimit},
		{4900, 4900, "", 0, 0, api.ErrLimit},
	} {
		n, at, err := parse.Parse(all(x.names, x.args, x.more))
		if err != x.err || at != 0 {
			t.Errorf("%d names with %d arguments: byte %d, error %d", x.names, x.args, at, err)
		} else if nodes, deep := parse.Size(n); err == api.OK && (nodes != x.nodes || deep != x.deep || parse.Check(n) != api.OK) {
			t.Errorf("%d names with %d arguments: %d nodes, %d deep, Check %d", x.names, x.args, nodes, deep, parse.Check(n))
		}
	}
}

// R2: what is read is new memory, also where a text says something once for several nodes.
func TestNewMemory(t *testing.T) {
	text := specified("a, b, c : s, t -> s", "x = y;")
	n := mustRead(t, readings()[0], text)
	again := mustRead(t, readings()[0], text)
	ops := n.L[3].L[0].L[5].L
	ops[0].L[0].L[0].S = "other"
	ops[0].L[1].S = "another"
	ops[0].L = append(ops[0].L, api.Node{})
	if !equal(ops[1], again.L[3].L[0].L[5].L[1]) || !equal(mustRead(t, readings()[0], text), again) {
		t.Errorf("two operations share memory: %s", form(n))
	}
	b := mustRead(t, readings()[1], "choice x, y : s [] stop")
	b.L[0].L[0].L[0].S = "other"
	if b.L[0].L[1].L[0].S != "s" {
		t.Errorf("two variables share memory: %s", form(b))
	}
	mixes := table()
	if _, _, err := parse.Expr("a + b", mixes); err != api.OK {
		t.Error(err)
	}
	for i := range mixes {
		if !sameMix(mixes[i], table()[i]) {
			t.Errorf("Expr changes an argument")
		}
	}
}

// P2.9: two behaviours in brackets, joined by an operator, are its node with both.
func TestJoinedBehaviours(t *testing.T) {
	var texts []string
	var trees []api.Node
	made(900, func(r reading, text string, want api.Node) {
		if r.what == "Behaviour" {
			texts = append(texts, text)
			trees = append(trees, want)
		}
	})
	for i := range texts[1:] {
		a, b := trees[i], trees[i+1]
		for _, x := range []struct {
			sign string
			want api.Node
		}{
			{">>", node(api.NdEnable, list(), a, b)}, {">> accept x, y : s in", node(api.NdEnable, decls("x y", "s"), a, b)}, {"[>", node(api.NdDisable, a, b)}, {"|||", named(api.NdPar, "|||", list(), a, b)}, {"||", named(api.NdPar, "||", list(), a, b)}, {"|[a]|", named(api.NdPar, "|[", names("a"), a, b)}, {"[]", node(api.NdChoice, a, b)},
		} {
			text := "(" + texts[i] + ")" + x.sign + "(" + texts[i+1] + ")"
			if n := mustRead(t, readings()[1], text); !parse.Same(n, x.want) || n.At != 0 || n.End != len(text) {
				t.Fatalf("Behaviour(%q): %s, want %s", text, form(n), form(x.want))
			}
		}
	}
}

// P2.5: the place of a node that has tokens is within that of the node around it, and the places of its L follow each other, but for sorts, and for the lists that stand between two behaviours.
func TestOrderOfPlaces(t *testing.T) {
	made(1500, func(r reading, text string, want api.Node) {
		if r.what != "Behaviour" {
			return
		}
		everyNode(mustRead(t, r, text), func(n api.Node) {
			if n.Kind == api.NdTake || n.Kind == api.NdDecl {
				return
			}
			l := n.L
			if n.Kind == api.NdPar || n.Kind == api.NdEnable {
				l = []api.Node{n.L[1], n.L[0], n.L[2]}
			}
			end := n.At
			for _, x := range l {
				if x.At < end && x.At < x.End || x.End > n.End && x.At < x.End || x.End < x.At {
					t.Fatalf("Behaviour(%q): %s within %s", text, form(x), form(n))
				}
				end = max(end, x.End)
			}
		})
	})
}
