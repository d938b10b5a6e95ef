package show_test

import (
	"slices"
	"strconv"
	"strings"
	"testing"

	"madrigal/api"
	"madrigal/parse"
	"madrigal/show"
)

// fullSpec is a specification with all that one can have.
func fullSpec() api.Spec {
	s := smallSpec()
	s.Type.Sig.Ops = append(s.Type.Sig.Ops, op("x1", 0, 0), op("p1", 0, 0), op("p0", 1, 1), op("g0", 0, 0), op("7", 0, 1), op("_or_", 2, 0), op("_or_", 2, 1))
	s.Type.Sig.Ops[12].Args = []int{1, 1}
	s.Type.Eqns = []api.Eqn{
		{A: o(1, o(0)), B: o(0)},
		{Vars: []int{0, 1, 0}, Conds: []api.Pair{pair(v(0), v(2)), pair(v(1), o(3))}, A: o(12, v(1), o(4)), B: v(1)},
		{Vars: []int{1, 0}, A: v(1), B: v(1)},
	}
	s.Gates = []string{"a", "h2"}
	s.Procs = []api.Proc{
		{Name: "P", Gates: 2, Vars: []int{0, 1}, Func: api.Func{Ends: true, Sorts: []int{1, 0}}, B: prefix(1, hides(1, prefix(2, exits(in(1), out(v(3))))), in(0), in(0))},
		{Name: "Q", Func: api.Func{Sorts: []int{1}}, B: beh(api.BStop)},
		{Name: "Q", Gates: 1, Func: api.Func{Ends: true}, B: exits()},
	}
	s.Main = hides(1, beh(api.BEnable, prefix(2, exits()), prefix(0, beh(api.BChoice, calls(1, nil), calls(0, []int{0, 2}, v(0), o(3))), in(0))))
	return s
}

const fullText = "specification spec[a,h2]:exit(bool,nat)type data is sorts nat,bool opns 0:->nat s:nat->nat v1:->nat true:->bool false:->bool v5_:nat->nat x1:->nat p1:->nat p0:nat->bool g0:->nat 7:->bool_or_:nat,nat->nat_or_:bool,bool->bool " +
	"eqns ofsort nat s(0)=0;forall x0:nat,x1':bool,x2:nat ofsort bool x0=x2,x1'=true=>(x1' or false)of bool=x1';forall x0:bool,x1':nat ofsort nat x1'=x1';endtype " +
	"behaviour hide h2' in h2';exit>>a?v0:nat;(Q[]P[a,h2'](v0,true))" +
	"where process P[g0,g1](p0:nat,p1':bool):exit(bool,nat):=g1?v2:nat?v3:nat;hide h2 in h2;exit(any bool,v3)endproc " +
	"process Q:noexit:=stop endproc process Q[g0]:exit:=exit endproc endspec"

// P3.4, P3.11: a specification with all that one can have.
func TestSpecs(t *testing.T) {
	s := fullSpec()
	w, err := show.Spec(s)
	if err != api.OK || w != fullText {
		t.Errorf("Spec: error %d\n%s\nwant\n%s", err, w, fullText)
	}
	n, err := show.SpecTree(s)
	read, at, back := parse.Parse(fullText)
	if err != api.OK || back != api.OK || !parse.Same(n, read) || !isBare(n) || sharesMemory(n) {
		t.Errorf("SpecTree: %s, error %d; want %s, byte %d, error %d", written(n), err, written(read), at, back)
	}
	for _, x := range []struct {
		s    api.Spec
		want string
	}{
		{api.Spec{Main: beh(api.BStop)}, "specification spec:noexit type data is endtype behaviour stop endspec"},
		{api.Spec{Type: api.Type{Sig: api.Sig{Sorts: []string{"s", "s"}}}, Main: exits(in(1))}, "specification spec:exit(s)type data is sorts s,s endtype behaviour exit(any s)endspec"},
		{api.Spec{Procs: []api.Proc{{Name: "P", B: beh(api.BStop)}}, Main: calls(0, nil)}, "specification spec:noexit type data is endtype behaviour P where process P:noexit:=stop endproc endspec"},
	} {
		if w, err := show.Spec(x.s); w != x.want || err != api.OK {
			t.Errorf("Spec: %q, error %d; want %q", w, err, x.want)
		}
	}
}

// P3.4: how Main ends by its form.
func TestEnds(t *testing.T) {
	stop, exit := beh(api.BStop), exits()
	nat, both := exits(out(o(0))), exits(in(1), out(o(1, o(0))))
	some := func(b api.Beh) api.Beh { return binding(api.BSome, []int{1, 0}, b) }
	guard := api.Beh{Kind: api.BGuard, Conds: []api.Pair{pair(o(0), o(0))}, L: []api.Beh{nat}}
	par := func(a, b api.Beh) api.Beh { return beh(api.BPar, a, b) }
	two := func(kind int, a, b api.Beh) api.Beh { return beh(kind, a, b) }
	for i, x := range []struct {
		b    api.Beh
		want string
	}{
		{stop, "noexit"}, {exit, "exit"}, {nat, "exit(nat)"}, {both, "exit(bool,nat)"}, {exits(out(o(3)), in(0)), "exit(bool,nat)"},
		{prefix(0, nat), "exit(nat)"}, {prefix(0, stop), "noexit"}, {prefix(0, exits(out(v(1)), out(v(0))), in(0), out(o(0)), in(1)), "exit(bool,nat)"},
		{two(api.BChoice, stop, nat), "exit(nat)"}, {two(api.BChoice, nat, both), "exit(nat)"}, {two(api.BChoice, exit, both), "exit"}, {two(api.BChoice, stop, stop), "noexit"}, {two(api.BDisable, both, nat), "exit(bool,nat)"}, {two(api.BDisable, stop, nat), "exit(nat)"}, {two(api.BDisable, stop, stop), "noexit"},
		{par(nat, stop), "exit(nat)"}, {par(stop, nat), "noexit"}, {par(exit, nat), "exit"}, {par(stop, stop), "noexit"},
		{two(api.BEnable, exit, nat), "exit(nat)"}, {two(api.BEnable, exit, stop), "noexit"}, {two(api.BEnable, stop, exit), "exit"}, {binding(api.BEnable, []int{1, 0}, both, exits(out(v(0)))), "exit(bool)"}, {some(two(api.BEnable, exit, exits(out(v(0))))), "exit(bool)"}, {some(binding(api.BEnable, []int{0}, nat, exits(out(v(2)), out(v(0))))), "exit(nat,bool)"},
		{hides(1, both), "exit(bool,nat)"}, {hides(2, stop), "noexit"}, {guard, "exit(nat)"}, {api.Beh{Kind: api.BWait, L: []api.Beh{both}}, "exit(bool,nat)"},
		{lets([]int{1}, []api.Term{o(3)}, exits(out(v(0)))), "exit(bool)"}, {some(exits(out(v(1)))), "exit(nat)"}, {some(lets([]int{0}, []api.Term{o(0)}, exits(out(v(2)), out(v(0))))), "exit(nat,bool)"}, {some(stop), "noexit"},
		{calls(0, []int{0, 0}), "exit(bool,nat)"}, {calls(1, nil), "noexit"}, {calls(2, []int{0}), "exit"}, {two(api.BChoice, calls(1, nil), calls(0, []int{0, 0})), "exit(bool,nat)"}, {two(api.BChoice, calls(2, []int{0}), nat), "exit"}, {two(api.BChoice, nat, calls(2, []int{0})), "exit(nat)"},
		{two(api.BChoice, two(api.BEnable, both, stop), hides(1, two(api.BDisable, par(stop, both), nat))), "exit(nat)"},
	} {
		s := fullSpec()
		s.Main = x.b
		w, err := show.Spec(s)
		if want := "specification spec[a,h2]:" + x.want; err != api.OK || !strings.HasPrefix(w, want) || strings.HasPrefix(w, want+"(") {
			t.Errorf("%d: Spec: %q, error %d; want %q", i, w, err, want)
		}
	}
}

// P3.4: what cannot be written.
func TestWrongSpecs(t *testing.T) {
	check := func(what string, s api.Spec, want api.Errno) {
		t.Helper()
		if n, err := show.SpecTree(s); err != want || !parse.Same(n, api.Node{}) {
			t.Errorf("%s: SpecTree: %s, error %d; want %d", what, written(n), err, want)
		}
		if w, err := show.Spec(s); err != want || w != "" {
			t.Errorf("%s: Spec: %q, error %d; want %d", what, w, err, want)
		}
	}
	for i, b := range wrongBehaviours() {
		s := smallSpec()
		s.Gates = []string{"a", "b"}
		s.Main = binding(api.BSome, []int{0, 1}, b)
		s.Procs[0].B, s.Procs[1].B = beh(api.BStop), beh(api.BStop)
		check(strconv.Itoa(i), s, api.ErrSpec)
		s.Main = beh(api.BStop)
		s.Procs[1] = api.Proc{Name: "Q", Gates: 2, Vars: []int{0, 1}, B: b}
		check(strconv.Itoa(i)+" in a process", s, api.ErrSpec)
	}
	for what, change := range map[string]func(s *api.Spec){
		"no main behaviour":       func(s *api.Spec) { s.Main = api.Beh{} },
		"no body":                 func(s *api.Spec) { s.Procs[0].B = api.Beh{} },
		"gates below 0":           func(s *api.Spec) { s.Procs[1].Gates = -1 },
		"a gate of Main":          func(s *api.Spec) { s.Procs[1].B = prefix(0, beh(api.BStop)) },
		"a variable's sort":       func(s *api.Spec) { s.Procs[0].Vars = []int{0, 2} },
		"a sort below 0":          func(s *api.Spec) { s.Procs[0].Vars = []int{-1} },
		"an end's sort":           func(s *api.Spec) { s.Procs[2].Func.Sorts = []int{2} },
		"a result":                func(s *api.Spec) { s.Type.Sig.Ops[0].Res = 2 },
		"a result below 0":        func(s *api.Spec) { s.Type.Sig.Ops[0].Res = -1 },
		"an argument":             func(s *api.Spec) { s.Type.Sig.Ops[1].Args = []int{5} },
		"an equation's variable":  func(s *api.Spec) { s.Type.Eqns[1].Vars[0] = 2 },
		"a variable in equations": func(s *api.Spec) { s.Type.Eqns[2].B = v(2) },
		"a term in equations":     func(s *api.Spec) { s.Type.Eqns[0].A = o(99) },
		"a condition":             func(s *api.Spec) { s.Type.Eqns[1].Conds[1].B = o(1) },
		"arguments in equations":  func(s *api.Spec) { s.Type.Eqns[0].B = o(0, o(0)) },
	} {
		s := fullSpec()
		change(&s)
		check(what, s, api.ErrSpec)
	}
	for what, change := range map[string]func(s *api.Spec){
		"a gate twice":           func(s *api.Spec) { s.Gates = []string{"a", "a"} },
		"a gate that is no name": func(s *api.Spec) { s.Gates[0] = "i" },
	} {
		s := fullSpec()
		change(&s)
		check(what, s, api.ErrNames)
		s.Procs[0].Name = ""
		check(what+" ahead of a process without name", s, api.ErrNames)
		s.Main = api.Beh{}
		check(what+" ahead of what is wrong", s, api.ErrNames)
	}
	s := fullSpec()
	s.Procs[1].Func.Sorts = []int{99}
	if w, err := show.Spec(s); err != api.OK || !strings.Contains(w, "process Q:noexit:=stop") {
		t.Errorf("sorts without an end: %q, error %d", w, err)
	}
}

// P3.4: a process whose name is none cannot be written, whether it is called or not.
func TestProcessesWithoutNames(t *testing.T) {
	check := func(what string, s api.Spec, want api.Errno) {
		t.Helper()
		n, err := show.SpecTree(s)
		if err != want || (n.Kind == api.NdSpec) != (want == api.OK) || want != api.OK && !parse.Same(n, api.Node{}) {
			t.Errorf("%s: SpecTree: %s, error %d; want %d", what, written(n), err, want)
		}
		w, err := show.Spec(s)
		if err != want || (w == "") != (want != api.OK) {
			t.Errorf("%s: Spec: %q, error %d; want %d", what, w, err, want)
		}
	}
	for _, name := range noNames() {
		called := fullSpec()
		for i := range called.Procs {
			s := fullSpec()
			s.Procs[i].Name = name
			check(strconv.Quote(name)+" of the process "+strconv.Itoa(i), s, api.ErrSpec)
			s.Main = beh(api.BStop)
			check(strconv.Quote(name)+" of the process "+strconv.Itoa(i)+", not called", s, api.ErrSpec)
			called.Procs[i].Name = name
		}
		check(strconv.Quote(name)+" of all", called, api.ErrSpec)
		called.Type.Sig.Sorts = []string{"nat", name}
		check(strconv.Quote(name)+" of a sort, too", called, api.ErrNames)
		large := fullSpec()
		large.Procs[1].Gates, large.Procs[2].Name = api.MaxTree, name
		check(strconv.Quote(name)+" behind a process that is too large", large, api.ErrSpec)
	}
	for _, name := range []string{"P", "data", "spec", "a", "s", "nat", "v0", "g0'", strings.Repeat("P", 32)} {
		s := fullSpec()
		s.Procs[0].Name, s.Procs[1].Name = name, name
		check(name, s, api.OK)
	}
}

// P3.4: limits of specifications.
func TestLimitsOfSpecs(t *testing.T) {
	eqns := func(n int) api.Spec {
		s := fullSpec()
		s.Type.Eqns = slices.Repeat([]api.Eqn{{A: o(0), B: o(0)}}, n)
		return s
	}
	gates := func(n int) api.Spec {
		s := fullSpec()
		s.Procs[2].Gates = n
		return s
	}
	deep := fullSpec()
	for range 400 {
		deep.Procs[1].B = prefix(api.GInt, deep.Procs[1].B)
	}
	for _, x := range []struct {
		what       string
		s          api.Spec
		tree, text api.Errno
	}{
		{"3000 equations", eqns(3000), api.OK, api.OK}, {"4000 equations", eqns(4000), api.OK, api.ErrLimit}, {"7000 equations", eqns(7000), api.OK, api.ErrLimit}, {"9000 equations", eqns(9000), api.ErrLimit, api.ErrLimit},
		{"33 gates", gates(33), api.OK, api.OK}, {"9000 gates", gates(9000), api.OK, api.OK}, {"50000 gates", gates(50000), api.OK, api.ErrLimit}, {"60000 gates", gates(60000), api.ErrLimit, api.ErrLimit}, {"more gates than can be", gates(1 << 62), api.ErrLimit, api.ErrLimit},
		{"deep", deep, api.ErrLimit, api.ErrLimit},
	} {
		if n, err := show.SpecTree(x.s); err != x.tree || err != api.OK && !parse.Same(n, api.Node{}) {
			t.Errorf("%s: SpecTree: error %d", x.what, err)
		}
		if w, err := show.Spec(x.s); err != x.text || err != api.OK && w != "" {
			t.Errorf("%s: Spec: %d bytes, error %d", x.what, len(w), err)
		}
	}
}

// anySpec returns a specification that can be written.
func anySpec(r anyBeh) api.Spec {
	s := r.Spec
	sorts := len(s.Type.Sig.Sorts)
	s.Type.Eqns = nil
	for range r.Intn(4) {
		e := api.Eqn{Vars: r.sorts(0)}
		e.Conds = r.pairs(len(e.Vars), 0)
		e.A, e.B = r.term(len(e.Vars)), r.term(len(e.Vars))
		s.Type.Eqns = append(s.Type.Eqns, e)
	}
	s.Gates = []string{"a", "h1", "h2'", "P"}[:r.Intn(5)]
	s.Procs = slices.Clone(s.Procs)
	for i := range s.Procs {
		p := &s.Procs[i]
		p.Gates, p.Vars = r.Intn(3), r.sorts(0)
		p.Func = api.Func{Ends: r.Intn(2) == 0}
		if p.Func.Ends && r.Intn(2) == 0 {
			p.Func.Sorts = []int{r.Intn(sorts)}
		}
		p.B = r.grow(p.Gates, len(p.Vars), r.Intn(4))
	}
	s.Main = r.grow(len(s.Gates), 0, r.Intn(4))
	return s
}

// P3.4, P3.10, P3.11: specifications are read back as their trees, and written again as the same texts.
func TestSpecsReadBack(t *testing.T) {
	base := smallSpec()
	base.Type.Sig = numbers()
	r := anyBeh{newRandom(), base}
	for range 200 {
		s := anySpec(r)
		w, err := show.Spec(s)
		n, err2 := show.SpecTree(s)
		again, at, back := parse.Parse(w)
		if err != api.OK || err2 != api.OK || back != api.OK || !parse.Same(again, n) || parse.Check(n) != api.OK || !isBare(n) || sharesMemory(n) {
			t.Fatalf("Spec: %q, error %d; SpecTree: %s, error %d; read back: byte %d, error %d", w, err, written(n), err2, at, back)
		}
		if text, err := show.Text(again); text != w || err != api.OK {
			t.Fatalf("Text: %q, error %d; Spec: %q", text, err, w)
		}
		if twice, err := show.Spec(s); twice != w || err != api.OK {
			t.Fatalf("Spec: %q, then %q, error %d", w, twice, err)
		}
		for _, p := range n.L[5].L {
			if len(p.L[4].L) > 0 || !distinct(p.L[3], nil, nil) {
				t.Fatalf("SpecTree: %s", written(n))
			}
		}
		if !distinct(n.L[4], nil, s.Gates) {
			t.Fatalf("SpecTree: %s", written(n))
		}
		for _, lines := range []int{20, 60} {
			laid, err := show.Lay(n, lines)
			if err != api.OK || !slices.Equal(mustTokens(t, laid), mustTokens(t, w)) {
				t.Fatalf("Lay: %q, error %d", laid, err)
			}
		}
	}
}
