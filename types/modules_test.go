package types_test

import (
	"slices"
	"strings"
	"testing"

	"madrigal/api"
	"madrigal/types"
)

// P5.4, P5.5: the chapter's examples.
func TestBoxes(t *testing.T) {
	l := boxes()
	for k := range l {
		checkModule(t, l, k)
	}
	elem := with(data("elem box", o("e", 0), o("h", 0, 0), o("in", 0, 1)), eq(nil, op(1, op(0)), op(0)))
	if f := flatten(t, l, 1); !same(f, api.Flat{Type: elem, Sorts: []bool{true, false}, Ops: []bool{true, true, false}, Eq: []bool{true}}) {
		t.Errorf("Flatten 1: %v", f)
	}
	filled := data("nat box", o("0", 0), o("s", 0, 0), o("in", 0, 1))
	if f := flatten(t, l, 2); !same(f, api.Flat{Type: filled, Sorts: make([]bool, 2), Ops: make([]bool, 3)}) {
		t.Errorf("Flatten 2: %v", f)
	}
	if m := into(t, l, 2, 0); !same(m, api.Morph{Sorts: []int{0, 1}, Ops: []int{0, 1, 2}}) {
		t.Errorf("Into 2, 0: %v", m)
	}
	if m := into(t, l, 2, 1); !same(m, api.Morph{Sorts: []int{0}, Ops: []int{0, 1}}) {
		t.Errorf("Into 2, 1: %v", m)
	}
	owed := []api.Duty{{Module: 2, Eqn: eq(nil, op(1, op(0)), op(0))}}
	if d, other := duties(t, l, 2), duties(t, l, 3); !same(d, owed) || !same(other, owed) {
		t.Errorf("Duties 2, 3: %v, %v", d, other)
	}
	if x, err := types.Closed(l, 2); err != api.OK || !same(x, filled) {
		t.Errorf("Closed 2: %v, error %d", x, err)
	}
	if x, err := types.Closed(l, 1); err != api.ErrOpen || !same(x, api.Type{}) {
		t.Errorf("Closed 1: %v, error %d", x, err)
	}
	crate := data("nat crate", o("0", 0), o("s", 0, 0), o("in", 0, 1))
	if f := flatten(t, l, 3); !same(f, api.Flat{Type: crate, Sorts: make([]bool, 2), Ops: make([]bool, 3)}) {
		t.Errorf("Flatten 3: %v", f)
	}
	refused(t, append(l, actual("X", 1, 0, []int{0}, []int{1, 0})), 0, api.ErrModule)
	refused(t, append(l, text("X", []int{0, 1}, api.Type{}, data("nat"))), 0, api.ErrModule)
}

// P5.4: no index of the list, or of the uses; behind the error of the list.
func TestIndices(t *testing.T) {
	l := boxes()
	for _, k := range []int{-1, 4, 1 << 62, -1 << 63} {
		refused(t, l, k, api.ErrArg)
		refused(t, nil, k, api.ErrArg)
		refused(t, append(l, api.Module{}), k, api.ErrModule)
	}
	refused(t, nil, 0, api.ErrArg)
	for _, x := range [][2]int{{0, 0}, {0, -1}, {2, 2}, {2, -1}, {3, 1}, {2, 1 << 62}, {-1, 0}, {4, 0}} {
		if m, err := types.Into(l, x[0], x[1]); err != api.ErrArg || !same(m, api.Morph{}) {
			t.Errorf("Into%v: %v, error %d", x, m, err)
		}
	}
	if err := types.CheckModules(nil); err != api.OK {
		t.Errorf("CheckModules of nothing: error %d", err)
	}
}

// wrongModules are modules that are none behind those of the shelf, each for one reason.
func wrongModules() map[string]api.Module {
	none := api.Type{}
	change := func(m api.Module, do func(m *api.Module)) api.Module {
		m = copied(m)
		do(&m)
		return m
	}
	plain, named, filled := text("X", []int{0}, none, none), rename("X", 2, "a b", "f g h"), actual("X", 1, 0, []int{0}, []int{0, 1})
	l := map[string]api.Module{
		"kind 0":                   change(plain, func(m *api.Module) { m.Kind = 0 }),
		"kind 4":                   change(plain, func(m *api.Module) { m.Kind = 4 }),
		"kind -1":                  change(plain, func(m *api.Module) { m.Kind = -1 }),
		"a name twice":             change(plain, func(m *api.Module) { m.Name = "Crate" }),
		"the first name twice":     change(filled, func(m *api.Module) { m.Name = "Nat" }),
		"a use twice":              text("X", []int{0, 1, 0}, none, none),
		"names of MoText":          change(plain, func(m *api.Module) { m.Sorts, m.Ops = []string{"nat"}, []string{"0"} }),
		"both stand-ins of MoText": change(plain, func(m *api.Module) { m.SortTo, m.OpTo = []int{0}, []int{0} }),
		"names and stand-ins of MoText": change(plain, func(m *api.Module) {
			m.Sorts, m.Ops, m.SortTo, m.OpTo = []string{"nat"}, []string{"0"}, []int{0}, []int{0}
		}),
		"both stand-ins of MoRename":       change(named, func(m *api.Module) { m.SortTo, m.OpTo = []int{0}, []int{0} }),
		"own parts of MoRename":            change(named, func(m *api.Module) { m.Own = with(data("q", o("q", 0), o("r", 0)), eq(nil, op(0), op(0))) }),
		"own and formal parts of MoRename": change(named, func(m *api.Module) { m.Own, m.Formal, m.SortTo = data("q"), data("r"), []int{0, 0} }),
		"names of MoActual":                change(filled, func(m *api.Module) { m.Sorts, m.Ops = []string{"nat"}, []string{"0"} }),
		"own and formal parts of MoActual": change(filled, func(m *api.Module) { m.Own, m.Formal, m.Sorts = data("q"), data("r"), []string{"a", "b"} }),
		"parts of MoActual":                change(filled, func(m *api.Module) { m.Own = with(data("q", o("q", 0), o("r", 0)), eq(nil, op(0), op(0))) }),
		"sorts of MoText":                  change(plain, func(m *api.Module) { m.Sorts = []string{"nat"} }),
		"operations of MoText":             change(plain, func(m *api.Module) { m.Ops = []string{"0"} }),
		"stand-ins of MoText":              change(plain, func(m *api.Module) { m.SortTo = []int{0} }),
		"other stand-ins of MoText":        change(plain, func(m *api.Module) { m.OpTo = []int{0} }),
		"own sorts of MoRename":            change(named, func(m *api.Module) { m.Own.Sig.Sorts = []string{"q"} }),
		"own operations of MoRename":       change(named, func(m *api.Module) { m.Own.Sig.Ops = []api.Op{o("q", 0)} }),
		"own equations of MoRename":        change(named, func(m *api.Module) { m.Own.Eqns = []api.Eqn{eq(nil, op(0), op(0))} }),
		"formal sorts of MoRename":         change(named, func(m *api.Module) { m.Formal.Sig.Sorts = []string{"q"} }),
		"stand-ins of MoRename":            change(named, func(m *api.Module) { m.SortTo = []int{0} }),
		"op stand-ins of MoRename":         change(named, func(m *api.Module) { m.OpTo = []int{0} }),
		"two uses of MoRename":             change(named, func(m *api.Module) { m.Uses = []int{2, 2} }),
		"no use of MoRename":               api.Module{Name: "X", Kind: api.MoRename},
		"too few sorts":                    rename("X", 2, "a", "f g h"),
		"too many sorts":                   rename("X", 2, "a b c", "f g h"),
		"too few operations":               rename("X", 2, "a b", "f g"),
		"too many operations":              rename("X", 2, "a b", "f g h k"),
		"sorts with one name":              rename("X", 2, "a a", "f g h"),
		"operations that are one":          rename("X", 4, "a", "f f"),
		"a new name with a mark":           rename("X", 2, "a_ b", "f g h"),
		"a new name that does not":         rename("X", 2, "a b", "f _g_ h"),
		"a new name that is none":          rename("X", 2, "a b", "f g, h"),
		"formal parts of MoActual":         change(filled, func(m *api.Module) { m.Formal.Sig.Ops = []api.Op{o("q", 0)} }),
		"formal eqns of MoActual":          change(filled, func(m *api.Module) { m.Formal.Eqns = []api.Eqn{eq(nil, op(0), op(0))} }),
		"own parts of MoActual":            change(filled, func(m *api.Module) { m.Own.Sig.Sorts = []string{"q"} }),
		"sorts of MoActual":                change(filled, func(m *api.Module) { m.Sorts = []string{"nat"} }),
		"operations of MoActual":           change(filled, func(m *api.Module) { m.Ops = []string{"0"} }),
		"one use of MoActual":              change(filled, func(m *api.Module) { m.Uses = []int{1} }),
		"three uses of MoActual":           change(filled, func(m *api.Module) { m.Uses = []int{1, 0, 0} }),
		"no sort to":                       actual("X", 1, 0, nil, []int{0, 1}),
		"a sort to too many":               actual("X", 1, 0, []int{0, 0}, []int{0, 1}),
		"a sort to none":                   actual("X", 1, 0, []int{1}, []int{0, 1}),
		"a sort below 0":                   actual("X", 1, 0, []int{-1}, []int{0, 1}),
		"an operation to too few":          actual("X", 1, 0, []int{0}, []int{0}),
		"an operation to too many":         actual("X", 1, 0, []int{0}, []int{0, 1, 1}),
		"an operation to none":             actual("X", 1, 0, []int{0}, []int{0, 2}),
		"an operation below 0":             actual("X", 1, 0, []int{0}, []int{-1, 1}),
		"operations that do not fit":       actual("X", 1, 0, []int{0}, []int{1, 0}),
		"a result that does not fit":       actual("X", 1, 2, []int{0}, []int{0, 2}),
		"an argument that does not":        actual("X", 10, 2, []int{1}, []int{2}),
		"nothing formal, to":               actual("X", 0, 0, []int{0}, nil),
		"a sort of the base":               text("X", []int{0}, none, data("nat")),
		"a formal sort of the base":        text("X", []int{0}, data("nat"), none),
		"a sort twice":                     text("X", []int{0}, none, data("a a")),
		"a sort, formal and own":           text("X", []int{0}, data("a"), data("a")),
		"an operation of the base":         text("X", []int{0}, none, data("", o("0", 0))),
		"a formal operation of it":         text("X", []int{0}, data("", o("s", 0, 0)), none),
		"an operation twice":               text("X", []int{0}, none, data("", o("c", 0), o("c", 0))),
		"an operation, formal, own":        text("X", []int{0}, data("", o("c", 0)), data("", o("c", 0))),
		"a formal op of an own sort":       text("X", []int{0}, data("a", o("c", 2)), data("b")),
		"an argument of an own sort":       text("X", []int{0}, data("a", o("c", 2, 0)), data("b")),
		"an op of no sort":                 text("X", []int{0}, data("a"), data("b", o("c", 3))),
		"an op below 0":                    text("X", []int{0}, data("a"), data("b", o("c", -1))),
		"an argument of no sort":           text("X", []int{0}, data("a"), data("b", o("c", 0, 3, 0))),
		"nine arguments":                   text("X", []int{0}, none, data("b", o("c", 0, 0, 0, 0, 0, 0, 0, 0, 0, 0))),
		"a mark too many":                  text("X", []int{0}, none, data("b", o("_c_", 0, 0))),
		"only marks":                       text("X", []int{0}, none, data("b", o("_", 0, 0))),
		"a sort with a mark":               text("X", []int{0}, none, data("b_")),
		"a sort without a name":            text("X", []int{0}, none, api.Type{Sig: api.Sig{Sorts: []string{""}}}),
		"a sort with a long name":          text("X", []int{0}, none, data(strings.Repeat("s", 33))),
		"an operation without":             text("X", []int{0}, none, data("b", o("", 0))),
		"an operation with a blank":        text("X", []int{0}, data("b", o("a b", 0)), none),
		"a formal sort, then own":          text("X", []int{1, 5}, none, none),
		"an own sort, then formal":         text("X", []int{5, 1}, none, none),
		"an own op, then formal":           text("X", []int{0, 7}, none, none),
		"a formal op, then own":            text("X", []int{7, 0}, none, none),
		"own against formal, put in":       actual("X", 1, 8, []int{0}, []int{0, 1}),
		"own op against a formal":          actual("X", 9, 7, []int{0}, nil),
		"an equation over own parts":       text("X", []int{0}, with(data("a"), eq(nil, op(2), op(2))), data("b", o("c", 2))),
		"a variable of an own sort":        text("X", []int{0}, with(data("a"), eq([]int{2}, op(0), op(0))), data("b")),
		"an equation that is none":         text("X", []int{0}, with(none, eq([]int{0}, v(0), op(0))), none),
		"an own one that is none":          text("X", []int{0}, none, with(none, eq([]int{0}, op(0), op(0)), eq(nil, op(0), v(0)))),
	}
	for _, name := range []string{"", " ", "a b", "a,b", "(", "a)", "\x7f", "é", strings.Repeat("N", 33), "a\n"} {
		l["the name "+name] = change(plain, func(m *api.Module) { m.Name = name })
	}
	for _, n := range []int{-1, 11, 12, 1 << 62} { // 11 is the module itself
		for kind, m := range map[string]api.Module{"text": plain, "rename": named, "first": filled} {
			l[kind+" uses "+moduleName(n)] = change(m, func(m *api.Module) { m.Uses[0] = n })
		}
		l["second uses "+moduleName(n)] = change(filled, func(m *api.Module) { m.Uses[1] = n })
	}
	return l
}

// shelf is the chapter's examples, and modules with which others clash.
func shelf() []api.Module {
	none := api.Type{}
	return append(boxes(),
		text("Two", nil, none, data("a", o("f", 0), o("g", 0))),                  // 4
		text("Elem", nil, none, data("elem")),                                    // 5: formal in 1
		text("Sort", nil, none, data("nat")),                                     // 6
		text("Zero", []int{6}, data("", o("0", 0)), none),                        // 7: not formal in 0
		text("Formal", []int{0}, data("box", o("k", 0, 0)), none),                // 8: not formal in 1
		text("Own", nil, data("d"), data("", o("0", 0))),                         // 9: what is formal in 7, if d is nat
		text("One", nil, data("elem", o("h", 0, 0)), data("box", o("in", 0, 1))), // 10
	)
}

// P5.4: what is no module.
func TestWrongModules(t *testing.T) {
	l := shelf()
	for k := range l {
		checkModule(t, l, k)
	}
	large := text("Large", nil, api.Type{}, data(strings.Join(many(65, "s"), " ")))
	for name, m := range wrongModules() {
		all := append(slices.Clip(l), m)
		if want := verdict(t, all); want != api.ErrModule {
			t.Errorf("%s: %d is expected", name, want)
		}
		if err := types.CheckModules(all); err != api.ErrModule {
			t.Errorf("%s: error %d", name, err)
		}
		refused(t, all, 0, api.ErrModule)
		refused(t, append(all, large), 2, api.ErrModule)
		if err := types.CheckModules(append(append(slices.Clip(l), large), m)); err != api.ErrLimit {
			t.Errorf("%s, behind what is too large: error %d", name, err)
		}
	}
	if err := types.CheckModules([]api.Module{{Name: "X", Kind: api.MoRename, Uses: []int{-1}}}); err != api.ErrModule {
		t.Errorf("a use that is none: error %d", err)
	}
}

// P5.4: modules that are just right.
func TestRightModules(t *testing.T) {
	none := api.Type{}
	for name, m := range map[string]api.Module{
		"a long name":       text(strings.Repeat("N", 32), nil, none, none),
		"a mark":            text("_", nil, none, none),
		"another one":       text("_a_", nil, none, none),
		"names of ends":     text("!~", nil, none, data("! ~", o("!", 0), o("_~_", 0, 1, 1))),
		"all uses":          text("X", []int{10, 4, 2, 0, 3}, none, none),
		"an operation":      text("X", []int{0}, none, data("", o("s", 0), o("0", 0, 0), o("s", 0, 0, 0))),
		"eight arguments":   text("X", []int{0}, none, data("b", o("________c", 0, 1, 0, 0, 1, 0, 0, 1, 0))),
		"a formal equation": text("X", []int{0}, with(none, eq([]int{0}, op(1, v(0)), v(0))), none),
		"a sort renamed":    rename("X", 4, "nat", "0 s"),
		"the same names":    rename("X", 2, "nat box", "0 s in"),
		"names exchanged":   rename("X", 2, "box nat", "in s 0"),
		"put into itself":   actual("X", 1, 1, []int{0}, []int{0, 1}),
		"nothing formal":    actual("X", 0, 4, nil, nil),
		"nor there":         actual("X", 0, 0, nil, nil),
		"a formal sort":     actual("X", 9, 1, []int{0}, nil),
		"a box in a box":    actual("X", 9, 2, []int{1}, nil),
		"used twice":        actual("X", 10, 2, []int{0}, []int{1}),
	} {
		l := append(shelf(), m)
		if want := verdict(t, l); want != api.OK {
			t.Errorf("%s: error %d is expected", name, want)
		} else if err := types.CheckModules(l); err != api.OK {
			t.Errorf("%s: error %d", name, err)
		} else {
			checkModule(t, l, len(l)-1)
		}
	}
}
