package types_test

import (
	"slices"
	"strings"
	"testing"

	"madrigal/api"
	"madrigal/types"
)

// marksOf is a flat by names: sorts, operations, equations, the formal ones with a star behind.
func marksOf(f api.Flat) [3][]string {
	l := raw(f.Type)
	for i, marks := range [][]bool{f.Sorts, f.Ops, f.Eq} {
		l[i] = slices.Clone(l[i])
		for n, is := range marks {
			if is {
				l[i][n] += "*"
			}
		}
	}
	return l
}

// sameFlats reports whether two flats are the same but for numbers.
func sameFlats(a, b api.Flat) bool { return equalNames(sorted(marksOf(a)), sorted(marksOf(b))) }

// each calls check with modules made by chance, and with one of them.
func each(check func(g maker, l []api.Module, k int)) {
	for seed := range int64(150) {
		g := newMaker(seed + 1000)
		l := g.modules(8)
		for k := range l {
			check(g, l, k)
		}
	}
	for _, l := range [][]api.Module{boxes(), shelf()} {
		for k := range l {
			check(newMaker(1), l, k)
		}
	}
}

// P5.6: each equation of a used module is there, or is a duty; Into is a morphism; each part comes from a used module, or is written in the module.
func TestNothingIsLost(t *testing.T) {
	owed := 0
	each(func(_ maker, l []api.Module, k int) {
		f, d := flatten(t, l, k), duties(t, l, k)
		var came marked
		for i, n := range l[k].Uses {
			from, m := flatten(t, l, n), into(t, l, k, i)
			if err := types.CheckMorph(from.Type.Sig, f.Type.Sig, m); err != api.OK {
				t.Errorf("Into(%v, %d, %d): error %d", l, k, i, err)
			}
			for _, s := range m.Sorts {
				came.add(f.Type.Sig.Sorts[s], false)
			}
			for _, n := range m.Ops {
				came.add(viewOf(f.Type.Sig).ops[n], false)
			}
			for j, e := range from.Type.Eqns {
				e, err := types.ImageEqn(from.Type.Sig, f.Type.Sig, m, e)
				e, wrong := types.Standard(f.Type.Sig, e)
				came.add(viewOf(f.Type.Sig).eqn(e), false)
				isThere := slices.ContainsFunc(f.Type.Eqns, func(x api.Eqn) bool { return same(x, e) })
				isDuty := slices.ContainsFunc(d, func(x api.Duty) bool { return x.Module == k && same(x.Eqn, e) })
				isOwed := l[k].Kind == api.MoActual && i == 0 && from.Eq[j]
				if isOwed {
					owed++
				}
				if err != api.OK || wrong != api.OK || isOwed && !isDuty || !isOwed && !isThere {
					t.Errorf("the equation %d of %v in %d by the use %d: errors %d, %d", j, l, k, i, err, wrong)
				}
			}
		}
		w := viewOf(f.Type.Sig)
		for _, x := range []api.Type{l[k].Formal, l[k].Own} {
			for _, name := range x.Sig.Sorts {
				came.add(name, false)
			}
			for _, o := range x.Sig.Ops {
				came.add(written(o, w.sorts), false)
			}
			for _, e := range x.Eqns {
				came.add(w.eqn(renumbered(e)), false)
			}
		}
		for i, part := range raw(f.Type) {
			for _, text := range part {
				if !slices.Contains(came.texts, text) && l[k].Kind != api.MoRename {
					t.Errorf("%s of the module %d of %v comes from nowhere (%d)", text, k, l, i)
				}
			}
		}
	})
	if owed < 30 {
		t.Errorf("%d duties", owed)
	}
}

// P5.10: renamed, and renamed back.
func TestRenamedBack(t *testing.T) {
	each(func(g maker, l []api.Module, k int) {
		f := flatten(t, l, k)
		there := api.Module{Name: "There", Kind: api.MoRename, Uses: []int{k}, Sorts: many(len(f.Sorts), "sort")}
		back := api.Module{Name: "Back", Kind: api.MoRename, Uses: []int{len(l)}, Sorts: f.Type.Sig.Sorts}
		for i, o := range f.Type.Sig.Ops {
			name := many(len(f.Ops), "op")[i]
			if len(o.Args) > 0 && g.once(2) {
				name += strings.Repeat("_", len(o.Args))
			}
			there.Ops, back.Ops = append(there.Ops, name), append(back.Ops, o.Name)
		}
		all := append(slices.Clip(l), there, back)
		if got := flatten(t, all, len(l)+1); !same(got, f) {
			t.Errorf("the module %d of %v, renamed back: %v; was %v", k, l, got, f)
		}
		if got := flatten(t, all, len(l)); !same(got.Type.Sig.Sorts, there.Sorts) || !same(got.Type.Eqns, f.Type.Eqns) {
			t.Errorf("the module %d of %v, renamed: %v", k, l, got)
		}
		if d := duties(t, all, len(l)+1); !same(d, duties(t, l, k)) {
			t.Errorf("the module %d of %v, renamed back: the duties %v", k, l, d)
		}
	})
}

// P5.11: uses in another order.
func TestOrderOfUses(t *testing.T) {
	looked := 0
	for seed := range int64(400) {
		g := newMaker(seed + 2000)
		l := g.modules(6)
		m := text("X", g.r.Perm(6)[:2+g.r.Intn(2)], none(), none())
		one := append(slices.Clip(l), m)
		m = copied(m)
		slices.Reverse(m.Uses)
		other := append(slices.Clip(l), m)
		if err := types.CheckModules(one); err != types.CheckModules(other) {
			t.Errorf("CheckModules(%v): error %d; in the other order another one", one, err)
		} else if err == api.OK {
			looked++
			if a, b := flatten(t, one, 6), flatten(t, other, 6); !sameFlats(a, b) {
				t.Errorf("%v: %v; in the other order: %v", one, a, b)
			}
			checkModule(t, one, 6)
			checkModule(t, other, 6)
		}
	}
	if looked < 100 {
		t.Errorf("%d lists", looked)
	}
}

// P5.12: what comes by two ways is there once.
func TestOnce(t *testing.T) {
	each(func(_ maker, l []api.Module, k int) {
		n := len(l)
		all := append(slices.Clip(l), text("A", []int{k}, none(), none()), text("B", []int{k}, none(), none()), text("C", []int{n, n + 1}, none(), none()), text("D", []int{n + 1, k, n}, none(), none()))
		for i := range 4 {
			if got := flatten(t, all, n+i); !same(got, flatten(t, l, k)) {
				t.Errorf("the module %d of %v, by two ways: %v", k, l, got)
			}
			if got := duties(t, all, n+i); !same(got, duties(t, l, k)) {
				t.Errorf("the module %d of %v, by two ways: the duties %v", k, l, got)
			}
		}
	})
}

// formalNumbers returns which parts are formal.
func formalNumbers(marks []bool) []int {
	var l []int
	for i, is := range marks {
		if is {
			l = append(l, i)
		}
	}
	return l
}

// P5.13: formal parts replaced by themselves.
func TestReplacedByItself(t *testing.T) {
	owed := 0
	each(func(_ maker, l []api.Module, k int) {
		f := flatten(t, l, k)
		all := append(slices.Clip(l), actual("X", k, k, formalNumbers(f.Sorts), formalNumbers(f.Ops)))
		if got := flatten(t, all, len(l)); !sameFlats(got, f) {
			t.Errorf("the module %d of %v, replaced by itself: %v; was %v", k, l, got, f)
		}
		var d []api.Eqn
		for _, x := range duties(t, all, len(l)) {
			if x.Module == len(l) {
				d = append(d, x.Eqn)
			}
		}
		var want []api.Eqn
		for _, i := range formalNumbers(f.Eq) {
			want = append(want, f.Type.Eqns[i])
		}
		if owed += len(want); !same(d, want) {
			t.Errorf("the module %d of %v, replaced by itself: the duties %v; want %v", k, l, d, want)
		}
		checkModule(t, all, len(l))
	})
	if owed < 50 {
		t.Errorf("%d duties", owed)
	}
}

// P5.5: duties go with the morphisms of uses; each one is there once, where it comes first.
func TestDuties(t *testing.T) {
	f := text("F", nil, with(data("e", o("a", 0), o("b", 0)), eq(nil, op(0), op(1)), eq(nil, op(1), op(0)), eq(nil, op(0), op(0))), data("r", o("_-_", 0, 0, 1)))
	n := text("N", nil, none(), data("n", o("0", 0), o("1", 0)))
	g := text("G", nil, data("g", o("c", 0)), none())
	l := []api.Module{f, n, g,
		actual("FN", 0, 1, []int{0}, []int{1, 0}),            // 3: 1 = 0, 0 = 1, 1 = 1
		actual("FG", 0, 2, []int{0}, []int{0, 0}),            // 4: c = c, once
		actual("FGN", 4, 1, []int{0}, []int{1}),              // 5: of 4, 1 = 1
		rename("R", 3, "q r", "x y _-_"),                     // 6: y = x ..
		text("T", []int{5, 3, 1}, none(), none()),            // 7: of 4, then of 3
		text("U", []int{3, 5, 7}, none(), none()),            // 8: of 3, then of 4
		text("V", []int{2, 0}, none(), none()),               // 9
		actual("W", 9, 8, []int{0, 0}, []int{0, 1, 0}),       // 10: those of 8, and its own
		actual("S", 3, 7, nil, nil),                          // 11: those of 3, then of 7
		text("Y", []int{6}, none(), data("n", o("0", 0, 1))), // 12
	}
	if err := types.CheckModules(l); err != api.OK {
		t.Fatalf("CheckModules: error %d", err)
	}
	eqns := func(k int) string {
		var text []string
		w := viewOf(flatten(t, l, k).Type.Sig)
		for _, d := range duties(t, l, k) {
			side := func(x api.Term) string { name, _, _ := strings.Cut(w.ops[x.N], "("); return name }
			text = append(text, moduleName(d.Module)+":"+side(d.Eqn.A)+"="+side(d.Eqn.B))
		}
		return strings.Join(text, " ")
	}
	for k, want := range []string{
		"", "", "", "M3:1=0 M3:0=1 M3:1=1", "M4:c=c", "M4:1=1", "M3:y=x M3:x=y M3:y=y", "M4:1=1 M3:1=0 M3:0=1 M3:1=1", "M3:1=0 M3:0=1 M3:1=1 M4:1=1", "", "M3:1=0 M3:0=1 M3:1=1 M4:1=1 M10:1=0 M10:0=1 M10:1=1", "M3:1=0 M3:0=1 M3:1=1 M4:1=1", "M3:y=x M3:x=y M3:y=y",
	} {
		if got := eqns(k); got != want {
			t.Errorf("Duties %d: %s; want %s", k, got, want)
		}
		checkModule(t, l, k)
	}
}

// R2: arguments stay as they are, and what is returned is new memory.
func TestMemory(t *testing.T) {
	for seed := range int64(60) {
		g := newMaker(seed + 3000)
		a, b := g.data(), g.data()
		untouched(t, "Sum", func() []any { s, m, n, _ := types.Sum(a, b); return []any{s, m, n} }, a, b)
		untouched(t, "Sum with itself", func() []any { s, m, n, _ := types.Sum(a, a); return []any{s, m, n} }, a)
		untouched(t, "Identity", func() []any { m, _ := types.Identity(a.Sig); return []any{m} }, a)
		s, m, _, _ := types.Sum(a, b)
		_, n, _, _ := types.Sum(s, b)
		untouched(t, "Compose", func() []any { m, _ := types.Compose(a.Sig, s.Sig, s.Sig, m, n); return []any{m} }, a, s, m, n)
		for _, e := range a.Eqns {
			shared := e
			shared.Conds = append(slices.Clip(e.Conds), api.Pair{A: e.A, B: e.A})
			untouched(t, "Standard", func() []any { e, _ := types.Standard(a.Sig, shared); return []any{e} }, a, e)
			untouched(t, "ImageEqn", func() []any { e, _ := types.ImageEqn(a.Sig, s.Sig, m, shared); return []any{e} }, a, e)
			untouched(t, "Image", func() []any { x, _ := types.Image(a.Sig, s.Sig, m, e.A); return []any{x} }, a, m)
		}
		untouched(t, "Check and Same", func() []any { types.Check(a); types.Same(a, b); return nil }, a, b)
		l := g.modules(7)
		for k, x := range l {
			untouched(t, "Flatten", func() []any { f, _ := types.Flatten(l, k); return []any{f} }, l)
			untouched(t, "Duties", func() []any { d, _ := types.Duties(l, k); return []any{d} }, l)
			untouched(t, "Closed", func() []any { c, _ := types.Closed(l, k); return []any{c} }, l)
			for use := range x.Uses {
				untouched(t, "Into", func() []any { m, _ := types.Into(l, k, use); return []any{m} }, l)
			}
		}
	}
}
