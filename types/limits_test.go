package types_test

import (
	"slices"
	"strings"
	"testing"

	"madrigal/api"
	"madrigal/types"
)

// sorts is a type with so many sorts.
func sorts(n int, name string) api.Type { return data(strings.Join(many(n, name), " ")) }

// pairs is so many equations of constants, which are the first 256 operations.
func pairs(from, to int) []api.Eqn {
	var l []api.Eqn
	for n := from; n < to; n++ {
		l = append(l, eq(nil, op(n/200), op(n%200)))
	}
	return l
}

// none is what stands for no formal, or no own, parts.
func none() api.Type { return api.Type{} }

// P5.4: what is just not too large, and what is too large.
func TestModuleLimits(t *testing.T) {
	base := text("Base", nil, sorts(30, "f"), sorts(30, "o"))
	full := text("Full", nil, data("s", constants(100, "f")...), data("", constants(150, "o")...))
	rows := text("Rows", nil, with(data("s", constants(256, "c")...), pairs(0, 200)...), with(none(), pairs(150, 390)...))
	to := func(from, many int) []int {
		var l []int
		for n := range many {
			l = append(l, from+n)
		}
		return l
	}
	for i, x := range []struct {
		l    []api.Module
		want api.Errno
	}{
		{[]api.Module{base, text("X", []int{0}, sorts(2, "x"), sorts(2, "y"))}, api.OK}, {[]api.Module{base, text("X", []int{0}, sorts(2, "x"), sorts(3, "y"))}, api.ErrLimit}, {[]api.Module{base, text("X", []int{0}, sorts(5, "x"), none())}, api.ErrLimit},
		{[]api.Module{text("X", nil, sorts(65, "x"), none())}, api.ErrLimit}, {[]api.Module{text("X", nil, none(), sorts(65, "x"))}, api.ErrLimit}, {[]api.Module{text("X", nil, none(), sorts(64, "x"))}, api.OK},
		{[]api.Module{base, text("Y", nil, none(), sorts(4, "x")), text("X", []int{1, 0}, none(), none())}, api.OK}, {[]api.Module{base, text("Y", nil, none(), sorts(5, "x")), text("X", []int{1, 0}, none(), none())}, api.ErrLimit}, {[]api.Module{base, base, text("X", []int{0}, none(), none())}, api.ErrModule},
		{[]api.Module{full, text("X", []int{0}, data("", constants(3, "x")...), data("", constants(3, "y")...))}, api.OK}, {[]api.Module{full, text("X", []int{0}, data("", constants(3, "x")...), data("", constants(4, "y")...))}, api.ErrLimit}, {[]api.Module{full, text("X", []int{0}, data("", constants(7, "x")...), none())}, api.ErrLimit},
		{[]api.Module{text("X", nil, none(), data("s", constants(257, "c")...))}, api.ErrLimit}, {[]api.Module{text("X", nil, none(), data("s", constants(256, "c")...))}, api.OK},
		{[]api.Module{rows, text("X", []int{0}, with(none(), pairs(380, 395)...), with(none(), pairs(385, 400)...))}, api.OK}, {[]api.Module{rows, text("X", []int{0}, with(none(), pairs(380, 395)...), with(none(), pairs(385, 401)...))}, api.ErrLimit}, {[]api.Module{rows, text("X", []int{0}, with(none(), pairs(380, 401)...), none())}, api.ErrLimit},
		{[]api.Module{text("X", nil, none(), with(data("s", constants(200, "c")...), pairs(0, 401)...))}, api.ErrLimit}, {[]api.Module{text("X", nil, none(), with(data("s", constants(200, "c")...), slices.Concat(pairs(0, 400), pairs(0, 400))...))}, api.OK},
		// MoActual: the sorts, operations and equations of the second one, and those that are not formal.
		{[]api.Module{base, text("Y", nil, none(), sorts(34, "y")), actual("X", 0, 1, to(0, 30), nil)}, api.OK}, {[]api.Module{base, text("Y", nil, none(), sorts(35, "y")), actual("X", 0, 1, to(5, 30), nil)}, api.ErrLimit},
		{[]api.Module{full, text("Y", nil, none(), data("s", constants(106, "y")...)), actual("X", 0, 1, []int{0}, to(6, 100))}, api.OK}, {[]api.Module{full, text("Y", nil, none(), data("s", constants(107, "y")...)), actual("X", 0, 1, []int{0}, to(7, 100))}, api.ErrLimit},
		{[]api.Module{text("X", nil, data("s", constants(1, "f")...), with(data("", constants(200, "c")...), eq(nil, op(1), op(2)), eq(nil, op(3), op(0)))), text("Y", nil, none(), with(data("s", constants(200, "c")...), pairs(2, 399)...)), actual("Z", 0, 1, []int{0}, []int{7})}, api.OK},
		{[]api.Module{text("X", nil, data("s", constants(1, "f")...), with(data("", constants(200, "c")...), eq(nil, op(1), op(2)), eq(nil, op(3), op(0)), eq(nil, op(4), op(0)), eq(nil, op(4), op(4)))), text("Y", nil, none(), with(data("s", constants(200, "c")...), pairs(4, 402)[1:]...)), actual("Z", 0, 1, []int{0}, []int{7})}, api.ErrLimit},
	} {
		if want := verdict(t, x.l); want != x.want {
			t.Errorf("modules %d: error %d is expected, not %d", i, want, x.want)
		}
		if err := types.CheckModules(x.l); err != x.want {
			t.Errorf("modules %d: error %d; want %d", i, err, x.want)
		} else if err == api.OK {
			checkModule(t, x.l, len(x.l)-1)
		} else {
			refused(t, x.l, 0, x.want)
		}
	}
}

// P5.4: the error of the first module; of one module, first what is wrong but for equations, then too many sorts or operations, then equations, then too many of these.
func TestOrderOfErrors(t *testing.T) {
	wrong, large := text("W", nil, none(), data("a_b")), text("L", nil, none(), sorts(65, "s"))
	lines := text("E", nil, none(), with(data("s", constants(200, "c")...), pairs(0, 401)...))
	bad := eq([]int{0}, op(0), v(0))
	elem, own := text("A", nil, data("elem"), none()), text("B", nil, none(), data("elem"))
	for i, x := range []struct {
		l    []api.Module
		want api.Errno
	}{
		{[]api.Module{wrong, large}, api.ErrModule}, {[]api.Module{large, wrong}, api.ErrLimit}, {[]api.Module{lines, wrong}, api.ErrLimit}, {[]api.Module{wrong, lines}, api.ErrModule}, {slices.Repeat([]api.Module{large}, 41), api.ErrModule}, {slices.Repeat([]api.Module{large}, 40), api.ErrLimit},
		{[]api.Module{text("X", nil, none(), data(strings.Join(many(65, "s"), " ")+" a_b"))}, api.ErrModule}, {[]api.Module{text("X", nil, sorts(65, "s"), data("s64"))}, api.ErrModule}, {[]api.Module{text("X", nil, sorts(65, "s"), data("", o("c", 65)))}, api.ErrModule}, {[]api.Module{text("X", nil, sorts(65, "s"), data("", o("c", 64)))}, api.ErrLimit},
		{[]api.Module{text("X", nil, none(), data("s", append(constants(257, "c"), o("c0", 0))...))}, api.ErrModule}, {[]api.Module{text("X", nil, none(), data("s", append(constants(257, "c"), o("_", 0, 0))...))}, api.ErrModule}, {[]api.Module{text("X", []int{0, 0}, none(), sorts(65, "s"))}, api.ErrModule},
		{[]api.Module{elem, own, text("X", []int{0, 1}, none(), sorts(65, "s"))}, api.ErrModule}, {[]api.Module{elem, text("Y", []int{0}, none(), sorts(60, "s")), text("Z", nil, none(), data(strings.Join(many(10, "t"), " ")+" elem")), text("X", []int{1, 2}, none(), none())}, api.ErrModule},
		{[]api.Module{text("X", nil, none(), with(sorts(65, "s"), bad))}, api.ErrLimit}, {[]api.Module{text("X", nil, with(sorts(65, "s"), bad), none())}, api.ErrLimit}, {[]api.Module{text("X", nil, none(), with(data("s", constants(257, "c")...), bad))}, api.ErrLimit}, {[]api.Module{text("X", nil, with(none(), bad), sorts(65, "s"))}, api.ErrLimit},
		{[]api.Module{text("X", nil, none(), with(data("s", constants(200, "c")...), append(pairs(0, 401), bad)...))}, api.ErrModule}, {[]api.Module{text("X", nil, with(data("s", constants(200, "c")...), pairs(0, 401)...), with(none(), bad))}, api.ErrModule}, {[]api.Module{text("X", nil, none(), with(data("s", constants(200, "c")...), pairs(0, 401)...))}, api.ErrLimit},
		// MoActual: stand-ins that do not fit, or a clash, ahead of too many sorts.
		{[]api.Module{text("Y", nil, data("e"), sorts(40, "s")), text("Z", nil, none(), sorts(30, "t")), actual("X", 0, 1, []int{30}, nil)}, api.ErrModule}, {[]api.Module{text("Y", nil, data("e"), sorts(40, "s")), text("Z", nil, none(), sorts(30, "t")), actual("X", 0, 1, []int{29}, nil)}, api.ErrLimit},
		{[]api.Module{text("Y", nil, data("e"), sorts(40, "s")), text("Z", nil, data("s39"), sorts(30, "t")), actual("X", 0, 1, []int{3}, nil)}, api.ErrModule}, {[]api.Module{text("Y", nil, data("e", o("c", 0)), sorts(40, "s")), text("Z", nil, none(), with(sorts(30, "t"), api.Eqn{})), actual("X", 0, 1, []int{3}, nil)}, api.ErrModule},
		{[]api.Module{text("Y", nil, data("e", o("c", 0)), sorts(40, "s")), text("Z", nil, none(), data(strings.Join(many(30, "t"), " "), o("d", 1))), actual("X", 0, 1, []int{3}, []int{0})}, api.ErrModule}, {[]api.Module{text("Y", nil, data("e", o("c", 0)), sorts(40, "s")), text("Z", nil, none(), data(strings.Join(many(30, "t"), " "), o("d", 3))), actual("X", 0, 1, []int{3}, []int{0})}, api.ErrLimit},
	} {
		if want := verdict(t, x.l); want != x.want && len(x.l) < 40 {
			t.Errorf("modules %d: error %d is expected, not %d", i, want, x.want)
		}
		if err := types.CheckModules(x.l); err != x.want {
			t.Errorf("modules %d: error %d; want %d", i, err, x.want)
		}
		refused(t, x.l, -1, x.want)
	}
	var l []api.Module
	for k := range 40 {
		l = append(l, text(moduleName(k), nil, none(), none()))
	}
	if err := types.CheckModules(l); err != api.OK {
		t.Errorf("40 modules: error %d", err)
	}
	refused(t, append(l, text("X", nil, none(), none())), 0, api.ErrModule)
}

// P5.4: equations over own and over formal parts that are none.
func TestWrongEquations(t *testing.T) {
	s := logic()
	l := []api.Module{text("L", nil, none(), api.Type{Sig: s})}
	good := goodEqns()
	if err := types.CheckModules([]api.Module{text("L", nil, none(), api.Type{Sig: s, Eqns: good}), text("X", []int{0}, with(none(), good...), none())}); err != api.OK {
		t.Errorf("equations: error %d", err)
	}
	for i, e := range badEqns() {
		for j, m := range []api.Module{
			text("X", []int{0}, with(none(), e), none()), text("X", []int{0}, none(), with(none(), e)), text("X", []int{0}, with(none(), append(good, e)...), none()), text("X", []int{0}, none(), with(none(), append(good, e)...)),
			text("X", nil, api.Type{Sig: s, Eqns: []api.Eqn{e}}, none()), text("X", nil, api.Type{Sig: s}, with(none(), e)), text("X", nil, none(), api.Type{Sig: s, Eqns: []api.Eqn{e, good[0]}}),
		} {
			if err := types.CheckModules(append(slices.Clip(l), m)); err != api.ErrModule {
				t.Errorf("the equation %d, %d: error %d", i, j, err)
			}
		}
	}
}

// P5.4: the mark of an equation that is there already.
func TestMarksOfEquations(t *testing.T) {
	e, f := eq([]int{0, 0}, op(1, v(1)), v(1)), eq([]int{0}, op(1, v(0)), v(0))
	formal := func(name string, uses []int, l ...api.Eqn) api.Module {
		return text(name, uses, with(none(), l...), none())
	}
	own := func(name string, uses []int, l ...api.Eqn) api.Module {
		return text(name, uses, none(), with(none(), l...))
	}
	base := []api.Module{text("N", nil, none(), data("nat", o("0", 0), o("s", 0, 0))), formal("F", []int{0}, e), own("O", []int{0}, f)}
	for i, x := range []struct {
		m    api.Module
		want bool
	}{
		{formal("X", []int{1}), true}, {own("X", []int{1}, f), false}, {own("X", []int{1}, e), false}, {formal("X", []int{2}, e), false}, {own("X", []int{2}), false}, {formal("X", []int{1}, f), true}, {formal("X", []int{0}, e, f), true},
		{formal("X", []int{1, 2}), false}, {formal("X", []int{2, 1}), false}, {text("X", []int{0}, with(none(), e), with(none(), f)), false}, {formal("X", []int{1, 2}, e), false}, {formal("X", []int{2, 1}, f), false},
		{actual("X", 2, 1, nil, nil), false}, {actual("X", 1, 2, nil, nil), false}, {actual("X", 1, 1, nil, nil), true}, {rename("X", 1, "nat", "0 s"), true},
	} {
		l := append(slices.Clip(base), x.m)
		checkModule(t, l, 3)
		if y := flatten(t, l, 3); len(y.Eq) != 1 || y.Eq[0] != x.want || !same(y.Type.Eqns, []api.Eqn{f}) {
			t.Errorf("modules %d: %v", i, y)
		}
	}
}

// sources returns two modules: one with so many formal equations over formal constants, and one that has such constants.
func sources(eqns int) []api.Module {
	return []api.Module{text("F", nil, with(data("e", constants(20, "c")...), squares(eqns)...), none()), text("P", nil, data("p", constants(20, "q")...), none())}
}

// squares is so many equations of the first 20 operations, which are constants.
func squares(eqns int) []api.Eqn {
	var l []api.Eqn
	for n := range eqns {
		l = append(l, eq(nil, op(n/20), op(n%20)))
	}
	return l
}

func upTo(n int) []int {
	var l []int
	for i := range n {
		l = append(l, i)
	}
	return l
}

// P5.5: there are not more than 4000 duties in a module, nor in one that it uses.
func TestDutyLimits(t *testing.T) {
	l := sources(400)
	for k := range 10 {
		l = append(l, actual(moduleName(k), 0, 1, []int{0}, upTo(20)))
	}
	ten := upTo(12)[2:]
	l = append(l, text("All", ten, none(), none()), text("Again", append([]int{12}, ten...), none(), none()), text("Small", nil, with(data("e", o("c", 0)), eq(nil, op(0), op(0))), none()), actual("One", 14, 1, []int{0}, []int{7}))
	for _, k := range []int{12, 13} {
		if d := duties(t, l, k); len(d) != 4000 || d[0].Module != 2 || d[400].Module != 3 || d[3999].Module != 11 {
			t.Errorf("Duties %d: %d", k, len(d))
		}
	}
	// One duty more; Z makes all constants the same, so that few duties are left.
	l = append(l, text("More", append(slices.Clone(ten), 15), none(), none()), text("Z", nil, none(), data("z", o("z", 0))), actual("Few", 16, 17, []int{0}, slices.Repeat([]int{0}, 20)), text("Last", []int{18}, none(), none()), actual("Own", 12, 17, []int{0}, slices.Repeat([]int{0}, 20)))
	if err := types.CheckModules(l); err != api.OK {
		t.Fatalf("CheckModules: error %d", err)
	}
	for _, k := range []int{16, 18, 19} {
		if d, err := types.Duties(l, k); err != api.ErrLimit || len(d) != 0 {
			t.Errorf("Duties %d: %d, error %d", k, len(d), err)
		}
	}
	if d := duties(t, l, 20); len(d) != 10 {
		t.Errorf("Duties of one that makes many the same: %d", len(d))
	}
	for k, want := range map[int]int{0: 0, 2: 400, 15: 1, 17: 0} {
		if d := duties(t, l, k); len(d) != want {
			t.Errorf("Duties %d: %d; want %d", k, len(d), want)
		}
	}
	flatten(t, l, 19)
	// One of its own is one too many.
	for used, want := range map[int]api.Errno{9: api.OK, 10: api.ErrLimit} {
		l := slices.Clip(l[:2+used])
		l = append(l, text("All", upTo(2 + used)[2:], with(none(), eq(nil, op(0), op(0))), none()), text("T", nil, none(), data("t", constants(20, "t")...)))
		l = append(l, actual("X", 2+used, 3+used, []int{0}, upTo(20)))
		d, err := types.Duties(l, 4+used)
		if err != want || err == api.OK && (len(d) != 3601 || d[3600].Module != 4+used) || err != api.OK && len(d) != 0 {
			t.Errorf("Duties with one of its own: %d, error %d; want %d", len(d), err, want)
		}
	}
}

// P5.5: ways to a module are far more than modules; each module is looked at once.
func TestManyWays(t *testing.T) {
	l := append(sources(1), actual("A", 0, 1, []int{0}, upTo(20)))
	for k := len(l); k < 40; k++ {
		l = append(l, text(moduleName(k), upTo(k)[1:], none(), none()))
	}
	if d := duties(t, l, 39); !same(d, []api.Duty{{Module: 2, Eqn: eq(nil, op(0), op(0))}}) {
		t.Errorf("Duties: %v", d)
	}
	checkModule(t, l, 39)
}
