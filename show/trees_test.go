package show_test

import (
	"math/rand"
	"slices"
	"strconv"
	"strings"
	"testing"

	"madrigal/api"
	"madrigal/parse"
	"madrigal/show"
)

// Behaviours.

func beh(kind int, l ...api.Beh) api.Beh { return api.Beh{Kind: kind, L: l} }

func in(sort int) api.Offer { return api.Offer{In: true, Sort: sort} }

func out(t api.Term) api.Offer { return api.Offer{T: t} }

func pair(a, b api.Term) api.Pair { return api.Pair{A: a, B: b} }

func prefix(gate int, behind api.Beh, l ...api.Offer) api.Beh {
	return api.Beh{Kind: api.BPre, Gate: gate, Hi: -1, Offers: l, L: []api.Beh{behind}}
}

func timed(lo, hi int) api.Beh {
	return api.Beh{Kind: api.BPre, Lo: lo, Hi: hi, L: []api.Beh{beh(api.BStop)}}
}

func exits(l ...api.Offer) api.Beh { return api.Beh{Kind: api.BExit, Offers: l} }

func hides(n int, b api.Beh) api.Beh { return api.Beh{Kind: api.BHide, N: n, L: []api.Beh{b}} }

func calls(n int, gates []int, t ...api.Term) api.Beh {
	return api.Beh{Kind: api.BCall, N: n, Gates: gates, T: t}
}

func binding(kind int, sorts []int, l ...api.Beh) api.Beh {
	return api.Beh{Kind: kind, Sorts: sorts, L: l}
}

func lets(sorts []int, t []api.Term, b api.Beh) api.Beh {
	return api.Beh{Kind: api.BLet, Sorts: sorts, T: t, L: []api.Beh{b}}
}

// smallSpec is a specification over 0, s, v1 (all of them nat), true and false (bool), with two processes.
func smallSpec() api.Spec {
	return api.Spec{
		Type: api.Type{Sig: api.Sig{Sorts: []string{"nat", "bool"}, Ops: []api.Op{
			{Name: "0"}, {Name: "s", Args: []int{0}}, {Name: "v1"}, {Name: "true", Res: 1}, {Name: "false", Res: 1}, {Name: "v5_", Args: []int{0}, Res: 0},
		}}},
		Procs: []api.Proc{{Name: "P"}, {Name: "Q", Gates: 1}},
	}
}

// P3.4: each kind of behaviours. The gates a, b and the variables x, y are seen.
func TestBehTrees(t *testing.T) {
	stop := beh(api.BStop)
	guarded := api.Beh{Kind: api.BGuard, Conds: []api.Pair{pair(v(0), o(0)), pair(o(3), v(1))}, L: []api.Beh{stop}}
	when := prefix(1, prefix(0, stop, out(v(3)), out(v(2))), in(0), out(v(1)), in(1))
	when.Conds = []api.Pair{pair(v(2), v(0)), pair(v(3), o(4))}
	sync := beh(api.BPar, stop, stop)
	sync.Gates = []int{0, 1}
	inner := prefix(2, beh(api.BStop), out(v(2)))
	for _, x := range []struct {
		b    api.Beh
		want string
	}{
		{stop, "stop"}, {exits(), "exit"}, {exits(in(1), out(v(0)), in(0), out(o(1, v(1)))), "exit(any bool,x,any nat,s(y))"},
		{prefix(0, stop), "a;stop"}, {prefix(api.GInt, prefix(1, stop)), "i;b;stop"}, {prefix(0, exits(out(v(2))), in(1)), "a?v2:bool;exit(v2)"},
		{when, "b?v2:nat!y?v3:bool[v2=x,v3=false];a!v3!v2;stop"},
		{timed(0, -1), "a;stop"}, {timed(0, 0), "a{0};stop"}, {timed(7, 7), "a{7};stop"}, {timed(3, -1), "a{3..};stop"}, {timed(0, 5), "a{0..5};stop"}, {timed(1000, 2147483647), "a{1000..2147483647};stop"}, {timed(5, 2), "a{5..2};stop"},
		{beh(api.BChoice, stop, exits()), "stop[]exit"}, {beh(api.BDisable, stop, exits()), "stop[>exit"}, {beh(api.BPar, stop, exits()), "stop|||exit"}, {sync, "stop|[a,b]|stop"},
		{hides(1, prefix(2, stop)), "hide h2 in h2;stop"}, {hides(3, hides(1, prefix(5, prefix(3, stop)))), "hide h2,h3,h4 in hide h5 in h5;h3;stop"}, {beh(api.BChoice, hides(1, prefix(2, stop)), hides(1, prefix(2, stop))), "(hide h2 in h2;stop)[]hide h2 in h2;stop"},
		{beh(api.BEnable, exits(), stop), "exit>>stop"}, {binding(api.BEnable, []int{0, 1}, exits(in(0), in(1)), exits(out(v(3)), out(v(2)), out(v(0)))), "exit(any nat,any bool)>>accept v2:nat,v3:bool in exit(v3,v2,x)"},
		{binding(api.BEnable, []int{0}, binding(api.BSome, []int{1}, exits(out(v(2)))), exits(out(v(2)))), "(choice v2:bool[]exit(v2))>>accept v2:nat in exit(v2)"},
		{guarded, "[x=0,true=y]->stop"}, {lets([]int{0, 1}, []api.Term{o(1, v(0)), v(1)}, exits(out(v(2)), out(v(3)))), "let v2:nat=s(x),v3:bool=y in exit(v2,v3)"},
		{binding(api.BSome, []int{1}, stop), "choice v2:bool[]stop"}, {binding(api.BSome, []int{0, 0, 1, 0}, exits(out(v(5)))), "choice v2:nat,v3:nat,v4:bool,v5':nat[]exit(v5')"},
		{calls(0, nil), "P"}, {calls(1, []int{1, 1}, o(0), v(1)), "Q[b,b](0,y)"}, {hides(1, calls(1, []int{2})), "hide h2 in Q[h2]"},
		{api.Beh{Kind: api.BWait, L: []api.Beh{stop}}, "wait 0;stop"}, {api.Beh{Kind: api.BWait, Lo: 2147483647, L: []api.Beh{stop}}, "wait 2147483647;stop"},
		{hides(1, binding(api.BSome, []int{0}, beh(api.BPar, inner, binding(api.BSome, []int{0}, prefix(2, stop, in(0), out(v(3))))))), "hide h2 in choice v2:nat[]h2!v2;stop|||choice v3:nat[]h2?v4:nat!v3;stop"},
	} {
		n, err := show.BehTree(smallSpec(), []string{"a", "b"}, []string{"x", "y"}, x.b)
		want, at, wrong := parse.Behaviour(x.want, []api.Mix{mix("", false, true, "v5")})
		if wrong != api.OK {
			t.Fatal(x.want, at, wrong)
		}
		if err != api.OK || !parse.Same(n, want) || !isBare(n) || sharesMemory(n) {
			t.Errorf("BehTree of %v: %s, error %d; want %s", x.b, written(n), err, written(want))
		}
		if s, err := show.Behaviour(n, []api.Mix{mix("", false, true, "v5")}); s != x.want || err != api.OK {
			t.Errorf("the text of %v: %q, error %d; want %q", x.b, s, err, x.want)
		}
	}
}

// P3.4, P3.10: names that others have already.
func TestNewNames(t *testing.T) {
	some := binding(api.BSome, []int{0}, exits(out(v(1)), out(v(0))))
	for _, x := range []struct {
		gates, vars []string
		b           api.Beh
		want        string
	}{
		{nil, nil, binding(api.BSome, []int{0, 0, 0}, exits(out(v(0)), out(v(1)), out(v(2)))), "choice v0:nat,v1':nat,v2:nat[]exit(v0,v1',v2)"},
		{nil, []string{"x"}, some, "choice v1':nat[]exit(v1',x)"}, {nil, []string{"v1'"}, some, "choice v1'':nat[]exit(v1'',v1')"}, {nil, []string{"v1''"}, some, "choice v1':nat[]exit(v1',v1'')"}, {nil, []string{"v0"}, some, "choice v1':nat[]exit(v1',v0)"},
		{nil, []string{"v2", "h1"}, binding(api.BSome, []int{0}, binding(api.BSome, []int{0}, exits(out(v(0)), out(v(2)), out(v(3))))), "choice v2':nat[]choice v3:nat[]exit(v2,v2',v3)"},
		{[]string{"h1"}, nil, hides(2, prefix(0, prefix(1, prefix(2, beh(api.BStop))))), "hide h1',h2 in h1;h1';h2;stop"}, {[]string{"h2", "h2'"}, nil, hides(1, prefix(2, beh(api.BStop))), "hide h2'' in h2'';stop"}, {[]string{"v1", "v0"}, nil, hides(1, prefix(0, exits(out(v(0))), in(0))), "hide h2 in v1?v0:nat;exit(v0)"},
		{[]string{"h2", "x"}, []string{"h2"}, hides(1, hides(1, prefix(2, prefix(3, exits(out(v(1))), in(0))))), "hide h2' in hide h3 in h2';h3?v1':nat;exit(v1')"},
	} {
		n, err := show.BehTree(smallSpec(), x.gates, x.vars, x.b)
		if s, wrong := show.Behaviour(n, []api.Mix{mix("", false, true, "v5")}); s != x.want || err != api.OK || wrong != api.OK {
			t.Errorf("BehTree with %v and %v: %q, errors %d and %d; want %q", x.gates, x.vars, s, err, wrong, x.want)
		}
	}
	// More than 32 bytes are no name.
	s := smallSpec()
	for i := range 31 {
		s.Type.Sig.Ops = append(s.Type.Sig.Ops, op("v0"+strings.Repeat("'", i), 0, 0))
	}
	one := binding(api.BSome, []int{0}, beh(api.BStop))
	if n, err := show.BehTree(s, nil, nil, one); err != api.ErrBeh || !parse.Same(n, api.Node{}) {
		t.Errorf("a name that is too long: %s, error %d", written(n), err)
	}
	s.Type.Sig.Ops = s.Type.Sig.Ops[:len(s.Type.Sig.Ops)-1]
	if n, err := show.BehTree(s, nil, nil, one); err != api.OK || n.L[0].L[0].S != "v0"+strings.Repeat("'", 30) {
		t.Errorf("a name of 32 bytes: %s, error %d", written(n), err)
	}
}

// wrongBehaviours returns what cannot be written where two gates and two variables are seen.
func wrongBehaviours() []api.Beh {
	stop := beh(api.BStop)
	with := func(b api.Beh, change func(*api.Beh)) api.Beh {
		change(&b)
		return b
	}
	conds := func(b api.Beh, l ...api.Pair) api.Beh { b.Conds = l; return b }
	par := func(l ...int) api.Beh { return with(beh(api.BPar, stop, stop), func(b *api.Beh) { b.Gates = l }) }
	l := []api.Beh{
		{}, {Kind: 15}, {Kind: -1}, {Kind: api.BRel, L: []api.Beh{stop}}, {Kind: api.BRel, Gates: []int{0}, L: []api.Beh{stop}},
		beh(api.BStop, stop), beh(api.BExit, stop), {Kind: api.BPre, Hi: -1}, beh(api.BPre, stop, stop), beh(api.BChoice, stop), beh(api.BChoice, stop, stop, stop), beh(api.BDisable, stop), beh(api.BPar, stop), beh(api.BPar, stop, stop, stop), {Kind: api.BHide, N: 1}, with(hides(1, stop), func(b *api.Beh) { b.L = append(b.L, stop) }), beh(api.BEnable, stop), beh(api.BEnable, stop, stop, stop), conds(beh(api.BGuard), pair(o(0), o(0))), lets([]int{0}, []api.Term{o(0)}, api.Beh{Kind: api.BChoice}), binding(api.BSome, []int{0}), binding(api.BSome, []int{0}, stop, stop), with(calls(0, nil), func(b *api.Beh) { b.L = []api.Beh{stop} }), beh(api.BWait), beh(api.BWait, stop, stop),
		prefix(2, stop), prefix(-2, stop), prefix(-3, stop), prefix(-4, stop), prefix(1<<40, stop), prefix(0, stop, in(2)), prefix(0, stop, in(-1)), prefix(0, stop, out(v(2))), prefix(0, stop, in(0), out(v(2))), prefix(0, stop, out(api.Term{})), prefix(0, exits(out(v(3))), in(0)),
		conds(prefix(0, stop, in(0)), pair(v(3), o(0))), conds(prefix(0, stop, in(0)), pair(o(0), o(99))), conds(prefix(0, stop), pair(o(0), o(0))), conds(prefix(api.GInt, stop), pair(o(0), o(0))),
		timed(-1, -1), timed(-1, 3), timed(0, -2), timed(5, -2), timed(2147483648, -1), timed(0, 2147483648), timed(2147483648, 2147483648),
		exits(in(2)), exits(in(-1)), exits(out(v(2))), exits(out(o(1))), exits(out(o(0, o(0)))), exits(out(o(6))), exits(out(v(-1))),
		par(2), par(0, -1), par(0, 1, 2), par(api.GInt),
		hides(0, stop), hides(-1, stop), hides(33, stop), hides(1<<40, stop), hides(1, prefix(3, stop)), hides(1, par(3)),
		binding(api.BEnable, []int{2}, stop, stop), binding(api.BEnable, []int{0}, exits(out(v(2))), stop), binding(api.BEnable, []int{0}, stop, exits(out(v(3)))),
		{Kind: api.BGuard, L: []api.Beh{stop}}, conds(beh(api.BGuard, stop), pair(v(2), o(0))), conds(beh(api.BGuard, stop), pair(o(0), o(0)), pair(o(0), api.Term{Kind: 3})),
		lets(nil, nil, stop), lets([]int{0}, nil, stop), lets(nil, []api.Term{o(0)}, stop), lets([]int{0}, []api.Term{o(0), o(0)}, stop), lets([]int{0}, []api.Term{v(2)}, stop), lets([]int{0, 0}, []api.Term{o(0), v(2)}, stop), lets([]int{2}, []api.Term{o(0)}, stop), lets([]int{0}, []api.Term{o(0)}, exits(out(v(3)))),
		binding(api.BSome, nil, stop), binding(api.BSome, []int{2}, stop), binding(api.BSome, []int{-1}, stop), binding(api.BSome, []int{0}, exits(out(v(3)))),
		calls(2, nil), calls(-1, nil), calls(1<<40, nil), calls(1, []int{2}), calls(1, []int{0, -1}), calls(0, nil, v(2)), calls(0, nil, o(0), o(1)),
		{Kind: api.BWait, Lo: -1, L: []api.Beh{stop}}, {Kind: api.BWait, Lo: 2147483648, L: []api.Beh{stop}},
	}
	return l
}

// P3.4: what cannot be written.
func TestWrongBehTrees(t *testing.T) {
	s := smallSpec()
	gates, vars := []string{"a", "b"}, []string{"x", "y"}
	for i, b := range wrongBehaviours() {
		for _, c := range []api.Beh{b, prefix(0, b), beh(api.BChoice, b, beh(api.BStop)), beh(api.BEnable, b, beh(api.BStop)), beh(api.BDisable, beh(api.BStop), b)} {
			if n, err := show.BehTree(s, gates, vars, c); err != api.ErrBeh || !parse.Same(n, api.Node{}) {
				t.Errorf("%d: BehTree of %v: %s, error %d", i, c, written(n), err)
			}
		}
	}
	for _, wrong := range [][]string{{"a", "a"}, {"i"}, {""}, {"+"}, {"1"}, {"a b"}, {"a", "stop"}, strings.Fields(strings.Repeat("a ", 33))} {
		if n, err := show.BehTree(s, wrong, nil, beh(api.BRel)); err != api.ErrNames || !parse.Same(n, api.Node{}) {
			t.Errorf("BehTree with the gates %v: %s, error %d", wrong, written(n), err)
		}
		s.Gates = wrong
		if w, err := show.Spec(s); err != api.ErrNames || w != "" {
			t.Errorf("Spec with the gates %v: %q, error %d", wrong, w, err)
		}
	}
	var many []string
	for i := range 33 {
		many = append(many, "g"+strconv.Itoa(i))
	}
	if _, err := show.BehTree(s, many, nil, beh(api.BStop)); err != api.ErrNames {
		t.Errorf("33 gates: error %d", err)
	}
	if n, err := show.BehTree(s, many[:32], nil, hides(32, prefix(63, beh(api.BStop)))); err != api.OK || len(n.L[0].L) != 32 || n.L[1].L[0].S != "h63" {
		t.Errorf("64 gates: %s, error %d", written(n), err)
	}
}

// noNames returns what cannot be the name of a process.
func noNames() []string {
	return []string{"", " ", "0", "1", "12", "stop", "exit", "i", "in", "any", "endproc", "not a name", " P", "P ", "P\n", "1P", "P#1", "+", "[]", "(*P*)", "\xff", strings.Repeat("P", 33)}
}

// P3.4: a call of a process whose name is none cannot be written; that of another process can.
func TestCallsWithoutNames(t *testing.T) {
	gates, vars := []string{"a"}, []string{"x"}
	for _, name := range noNames() {
		s := smallSpec()
		s.Procs[0].Name = name
		c := calls(0, []int{0}, v(0))
		for _, b := range []api.Beh{c, prefix(0, c), beh(api.BChoice, beh(api.BStop), c), hides(1, binding(api.BSome, []int{0}, c)), beh(api.BEnable, calls(1, nil), c)} {
			if n, err := show.BehTree(s, gates, vars, b); err != api.ErrBeh || !parse.Same(n, api.Node{}) {
				t.Errorf("BehTree of %v with a process %q: %s, error %d", b, name, written(n), err)
			}
		}
		for _, b := range []api.Beh{beh(api.BStop), calls(1, nil), prefix(0, calls(1, []int{0}, v(0)))} {
			if n, err := show.BehTree(s, gates, vars, b); err != api.OK || n.Kind == 0 {
				t.Errorf("BehTree of %v ahead of a process %q: %s, error %d", b, name, written(n), err)
			}
		}
		// Names of gates and variables come first.
		for _, x := range []struct{ gates, vars []string }{{[]string{name}, vars}, {gates, []string{name}}, {[]string{"a", "a"}, vars}} {
			if n, err := show.BehTree(s, x.gates, x.vars, c); err != api.ErrNames || !parse.Same(n, api.Node{}) {
				t.Errorf("BehTree with %q and %q: %s, error %d", x.gates, x.vars, written(n), err)
			}
		}
	}
}

// P3.4: arguments stay as they are, also behind their ends.
func TestArgumentsStay(t *testing.T) {
	gates, vars := make([]string, 1, 8), make([]string, 1, 8)
	gates[0], vars[0] = "a", "x"
	b := hides(2, binding(api.BSome, []int{0, 1}, prefix(2, beh(api.BStop), in(0))))
	if _, err := show.BehTree(smallSpec(), gates, vars, b); err != api.OK {
		t.Fatal(err)
	}
	s := smallSpec()
	s.Gates, s.Main = gates, b
	s.Procs[0].B, s.Procs[1].B = beh(api.BStop), beh(api.BStop)
	if _, err := show.Spec(s); err != api.OK {
		t.Fatal(err)
	}
	for _, l := range [][]string{gates, vars} {
		if behind := l[:8]; slices.ContainsFunc(behind[1:], func(s string) bool { return s != "" }) {
			t.Errorf("a list was written on: %q", behind)
		}
	}
}

// P3.4: limits of behaviours.
func TestLimitsOfBehTrees(t *testing.T) {
	s := smallSpec()
	chain := func(n int, b api.Beh) api.Beh {
		for range n {
			b = api.Beh{Kind: api.BWait, L: []api.Beh{b}}
		}
		return b
	}
	full := func(n int) api.Beh {
		b := beh(api.BStop)
		for range n {
			b = beh(api.BChoice, b, b)
		}
		return b
	}
	sorts := func(n int) api.Beh { return binding(api.BSome, make([]int, n), beh(api.BStop)) }
	cyclic := beh(api.BWait, beh(api.BStop))
	cyclic.L[0] = cyclic
	for _, x := range []struct {
		what string
		b    api.Beh
		want api.Errno
	}{
		{"400 deep", chain(399, beh(api.BStop)), api.OK}, {"401 deep", chain(400, beh(api.BStop)), api.ErrLimit}, {"400 deep with a term", chain(396, exits(out(o(1, o(0))))), api.OK}, {"401 deep with a term", chain(397, exits(out(o(1, o(0))))), api.ErrLimit}, {"100000 deep", chain(100000, beh(api.BStop)), api.ErrLimit}, {"a cycle", cyclic, api.ErrLimit},
		{"65535 nodes", full(15), api.ErrLimit}, {"32767 nodes", full(14), api.OK}, {"many nodes", full(60), api.ErrLimit},
		{"59999 nodes", sorts(29998), api.OK}, {"60001 nodes", sorts(29999), api.ErrLimit}, {"200003 nodes", sorts(100000), api.ErrLimit},
	} {
		if n, err := show.BehTree(s, nil, nil, x.b); err != x.want || err != api.OK && !parse.Same(n, api.Node{}) {
			t.Errorf("%s: error %d", x.what, err)
		}
	}
	if n, err := show.BehTree(s, nil, nil, beh(api.BChoice, sorts(29997), beh(api.BStop))); err != api.OK {
		nodes, _ := parse.Size(n)
		t.Errorf("60000 nodes: %d, error %d", nodes, err)
	}
}

// anyBeh returns a behaviour that can be written, where so many gates and variables are seen.
type anyBeh struct {
	*rand.Rand
	api.Spec
}

func (r anyBeh) term(vars int) api.Term { return anyTerm(r.Rand, r.Type.Sig, vars, r.Intn(3)) }

func (r anyBeh) terms(vars, n int) []api.Term {
	var l []api.Term
	for range n {
		l = append(l, r.term(vars))
	}
	return l
}

func (r anyBeh) sorts(least int) []int {
	var l []int
	for range least + r.Intn(3) {
		l = append(l, r.Intn(len(r.Type.Sig.Sorts)))
	}
	return l
}

func (r anyBeh) gates(gates, most int) []int {
	var l []int
	for range r.Intn(most + 1) {
		if gates > 0 {
			l = append(l, r.Intn(gates))
		}
	}
	return l
}

func (r anyBeh) pairs(vars, least int) []api.Pair {
	var l []api.Pair
	for range least + r.Intn(2) {
		l = append(l, pair(r.term(vars), r.term(vars)))
	}
	return l
}

func (r anyBeh) offers(vars int) ([]api.Offer, int) {
	var l []api.Offer
	inner := vars
	for range r.Intn(4) {
		if r.Intn(2) == 0 {
			l = append(l, out(r.term(vars)))
		} else {
			l = append(l, in(r.Intn(len(r.Type.Sig.Sorts))))
			inner++
		}
	}
	return l, inner
}

func (r anyBeh) grow(gates, vars, deep int) api.Beh {
	kind := 1 + r.Intn(14)
	if deep == 0 {
		kind = []int{api.BStop, api.BExit, api.BCall}[r.Intn(3)]
	}
	b := api.Beh{Kind: kind}
	next := func(gates, vars int) { b.L = append(b.L, r.grow(gates, vars, deep-1)) }
	switch kind {
	case api.BExit:
		b.Offers, _ = r.offers(vars)
	case api.BPre, api.BRel:
		b.Kind, b.Hi, b.Gate = api.BPre, -1, r.Intn(gates+1)-1
		inner := vars
		if b.Gate >= 0 {
			b.Offers, inner = r.offers(vars)
		}
		if len(b.Offers) > 0 {
			b.Conds = r.pairs(inner, 0)
		}
		if r.Intn(3) == 0 {
			b.Lo = r.Intn(4)
			b.Hi = b.Lo + r.Intn(3)
		}
		next(gates, inner)
	case api.BChoice, api.BDisable, api.BPar:
		next(gates, vars)
		next(gates, vars)
		if kind == api.BPar {
			b.Gates = r.gates(gates, 2)
		}
	case api.BHide:
		b.N = 1 + r.Intn(3)
		next(gates+b.N, vars)
	case api.BEnable:
		b.Sorts = r.sorts(0)
		next(gates, vars)
		next(gates, vars+len(b.Sorts))
	case api.BGuard:
		b.Conds = r.pairs(vars, 1)
		next(gates, vars)
	case api.BLet:
		b.Sorts = r.sorts(1)
		b.T = r.terms(vars, len(b.Sorts))
		next(gates, vars+len(b.Sorts))
	case api.BSome:
		b.Sorts = r.sorts(1)
		next(gates, vars+len(b.Sorts))
	case api.BCall:
		b.N, b.Gates, b.T = r.Intn(len(r.Procs)), r.gates(gates, 2), r.terms(vars, r.Intn(3))
	case api.BWait:
		b.Lo = r.Intn(4)
		next(gates, vars)
	}
	return b
}

// bound returns the names that a node binds in its last element, of variables and of gates.
func bound(n api.Node) ([]string, []string) {
	var l []string
	collect := func(from api.Node, kind int) {
		for _, x := range from.L {
			if x.Kind == kind {
				l = append(l, x.S)
			}
		}
	}
	switch n.Kind {
	case api.NdPre:
		collect(n.L[1], api.NdTake)
	case api.NdEnable, api.NdSome:
		collect(n.L[0], api.NdDecl)
	case api.NdLet:
		collect(n.L[0], api.NdBind)
	case api.NdHide:
		collect(n.L[0], api.NdName)
		return nil, l
	}
	return l, nil
}

// distinct reports whether no name is bound where a variable or a gate with that name is seen.
func distinct(n api.Node, vars, gates []string) bool {
	moreVars, moreGates := bound(n)
	for i, x := range n.L {
		innerVars, innerGates := vars, gates
		if i == len(n.L)-1 {
			innerVars = slices.Concat(vars, moreVars)
			innerGates = slices.Concat(gates, moreGates)
		}
		if len(setOf(innerVars)) != len(innerVars) || len(setOf(innerGates)) != len(innerGates) || !distinct(x, innerVars, innerGates) {
			return false
		}
	}
	return true
}

func setOf(l []string) map[string]bool {
	m := map[string]bool{}
	for _, s := range l {
		m[s] = true
	}
	return m
}

// P3.4, P3.9, P3.10: trees of behaviours are read back, and use no name twice where both are seen.
func TestBehTreesReadBack(t *testing.T) {
	s := smallSpec()
	s.Type.Sig = numbers()
	mixes, _ := show.Mixes(s.Type.Sig)
	r := anyBeh{newRandom(), s}
	names := func(letter string) []string {
		var l []string
		for _, x := range []string{"", "0", "1", "2", "2'", "3''", "4'"} {
			if r.Intn(2) == 0 && letter+x != "v0" {
				l = append(l, letter+x)
			}
		}
		return l
	}
	for range 1200 {
		gates, vars := names("h"), names("v")
		b := r.grow(len(gates), len(vars), 1+r.Intn(4))
		n, err := show.BehTree(s, gates, vars, b)
		if err != api.OK || !isBare(n) || sharesMemory(n) || !distinct(n, vars, gates) {
			t.Fatalf("BehTree of %v with %v, %v: %s, error %d", b, gates, vars, written(n), err)
		}
		w, err := show.Behaviour(n, mixes)
		if again, at, back := parse.Behaviour(w, mixes); err != api.OK || back != api.OK || !parse.Same(again, n) {
			t.Fatalf("Behaviour(%s): %q, error %d; read back: byte %d, error %d", written(n), w, err, at, back)
		}
	}
}
