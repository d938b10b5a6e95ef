package types_test

import (
	"reflect"
	"slices"
	"strconv"
	"strings"
	"testing"

	"madrigal/api"
	"madrigal/types"
)

func v(n int) api.Term { return api.Term{Kind: api.KVar, N: n} }

func op(n int, l ...api.Term) api.Term { return api.Term{Kind: api.KOp, N: n, L: l} }

// o is an operation with the sorts of its arguments, and the one of its result behind them.
func o(name string, l ...int) api.Op {
	return api.Op{Name: name, Args: l[:len(l)-1], Res: l[len(l)-1]}
}

func names(s string) []string { return strings.Fields(s) }

func signature(sorts string, ops ...api.Op) api.Sig {
	return api.Sig{Sorts: names(sorts), Ops: ops}
}

func data(sorts string, ops ...api.Op) api.Type { return api.Type{Sig: signature(sorts, ops...)} }

// eq is an equation of variables of some sorts; terms are those of conditions.
func eq(vars []int, a, b api.Term, l ...api.Term) api.Eqn {
	e := api.Eqn{Vars: vars, A: a, B: b}
	for i := 0; i < len(l); i += 2 {
		e.Conds = append(e.Conds, api.Pair{A: l[i], B: l[i+1]})
	}
	return e
}

func with(t api.Type, l ...api.Eqn) api.Type {
	t.Eqns = append(slices.Clip(t.Eqns), l...)
	return t
}

func text(name string, uses []int, formal, own api.Type) api.Module {
	return api.Module{Name: name, Kind: api.MoText, Uses: uses, Formal: formal, Own: own}
}

func rename(name string, of int, sorts, ops string) api.Module {
	return api.Module{Name: name, Kind: api.MoRename, Uses: []int{of}, Sorts: names(sorts), Ops: names(ops)}
}

func actual(name string, first, second int, sorts, ops []int) api.Module {
	return api.Module{Name: name, Kind: api.MoActual, Uses: []int{first, second}, SortTo: sorts, OpTo: ops}
}

// numbers is the type of numbers: 0, s, _+_ with both equations, the second one conditional for no reason.
func numbers() api.Type {
	return with(data("nat", o("0", 0), o("s", 0, 0), o("_+_", 0, 0, 0)),
		eq([]int{0}, op(2, v(0), op(0)), v(0)),
		eq([]int{0, 0}, op(2, v(0), op(1, v(1))), op(1, op(2, v(0), v(1))), v(1), op(1, op(0))))
}

// boxes returns the modules of the chapter's examples.
func boxes() []api.Module {
	elem := with(data("elem", o("e", 0), o("h", 0, 0)), eq(nil, op(1, op(0)), op(0)))
	return []api.Module{
		text("Nat", nil, api.Type{}, data("nat", o("0", 0), o("s", 0, 0))),
		text("Box", nil, elem, data("box", o("in", 0, 1))),
		actual("NatBox", 1, 0, []int{0}, []int{0, 1}),
		rename("Crate", 2, "nat crate", "0 s in"),
	}
}

// many is so many names.
func many(n int, name string) []string {
	var l []string
	for i := range n {
		l = append(l, name+strconv.Itoa(i))
	}
	return l
}

// constants is so many operations without arguments, of the sort 0.
func constants(n int, name string) []api.Op {
	var l []api.Op
	for _, x := range many(n, name) {
		l = append(l, o(x, 0))
	}
	return l
}

// chain is a term of so many nodes below each other, which ends with t.
func chain(nodes, n int, t api.Term) api.Term {
	for range nodes - 1 {
		t = op(n, t)
	}
	return t
}

// doubled is a term of more nodes than can be looked at.
func doubled(n int) api.Term {
	t := op(0)
	for range 100 {
		t = op(n, t, t)
	}
	return t
}

// same reports whether two values are equal, where nil and empty lists are the same.
func same(a, b any) bool { return sameValues(reflect.ValueOf(a), reflect.ValueOf(b)) }

func sameValues(a, b reflect.Value) bool {
	switch a.Kind() {
	case reflect.Slice:
		if a.Len() != b.Len() {
			return false
		}
		for i := range a.Len() {
			if !sameValues(a.Index(i), b.Index(i)) {
				return false
			}
		}
		return true
	case reflect.Struct:
		for i := range a.NumField() {
			if !sameValues(a.Field(i), b.Field(i)) {
				return false
			}
		}
		return true
	}
	return a.Equal(b)
}

// copied returns a value in memory of its own.
func copied[T any](x T) T {
	return copiedValue(reflect.ValueOf(x)).Interface().(T)
}

func copiedValue(x reflect.Value) reflect.Value {
	out := reflect.New(x.Type()).Elem()
	switch x.Kind() {
	case reflect.Slice:
		for i := range x.Len() {
			out = reflect.Append(out, copiedValue(x.Index(i)))
		}
	case reflect.Struct:
		for i := range x.NumField() {
			out.Field(i).Set(copiedValue(x.Field(i)))
		}
	default:
		out.Set(x)
	}
	return out
}

// memory is the bytes of lists that were met, behind their ends too, by their first and last ones.
type memory [][2]uintptr

// isNew adds the memory of a value, and reports whether none of it was there before.
func (m *memory) isNew(x reflect.Value) bool {
	switch x.Kind() {
	case reflect.Slice:
		if size := uintptr(x.Cap()) * x.Type().Elem().Size(); size > 0 {
			from := x.Pointer()
			for _, r := range *m {
				if from < r[1] && r[0] < from+size {
					return false
				}
			}
			*m = append(*m, [2]uintptr{from, from + size})
		}
		for i := range x.Len() {
			if !m.isNew(x.Index(i)) {
				return false
			}
		}
	case reflect.Struct:
		for i := range x.NumField() {
			if !m.isNew(x.Field(i)) {
				return false
			}
		}
	}
	return true
}

// untouched checks that a call changes no arguments, and that its results are new memory, no two lists of which share any.
func untouched(t *testing.T, what string, call func() []any, args ...any) {
	t.Helper()
	var before []any
	for _, x := range args {
		before = append(before, copiedValue(reflect.ValueOf(x)).Interface())
	}
	got := call()
	for i, x := range args {
		if !same(x, before[i]) {
			t.Errorf("%s changed its argument %d", what, i)
		}
	}
	var m memory
	for _, x := range args {
		m.isNew(reflect.ValueOf(x))
	}
	for i, x := range got {
		if !m.isNew(reflect.ValueOf(x)) {
			t.Errorf("%s: the result %d is no new memory", what, i)
		}
	}
}

// flatten is Flatten of what has to be a list of modules.
func flatten(t *testing.T, l []api.Module, k int) api.Flat {
	t.Helper()
	f, err := types.Flatten(l, k)
	if err != api.OK {
		t.Fatalf("Flatten(%v, %d): error %d", l, k, err)
	}
	return f
}

// into is Into of what has to be a list of modules.
func into(t *testing.T, l []api.Module, k, use int) api.Morph {
	t.Helper()
	m, err := types.Into(l, k, use)
	if err != api.OK {
		t.Fatalf("Into(%v, %d, %d): error %d", l, k, use, err)
	}
	return m
}

// duties is Duties of what has to be a list of modules.
func duties(t *testing.T, l []api.Module, k int) []api.Duty {
	t.Helper()
	d, err := types.Duties(l, k)
	if err != api.OK {
		t.Fatalf("Duties(%v, %d): error %d", l, k, err)
	}
	return d
}
