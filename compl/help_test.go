package compl_test

import (
	"reflect"
	"strings"
	"testing"

	"madrigal/api"
)

func v(n int) api.Term { return api.Term{Kind: api.KVar, N: n} }

func op(n int, l ...api.Term) api.Term { return api.Term{Kind: api.KOp, N: n, L: l} }

// o is an operation with the sorts of its arguments, and the one of its result behind them.
func o(name string, l ...int) api.Op {
	return api.Op{Name: name, Args: l[:len(l)-1], Res: l[len(l)-1]}
}

func signature(sorts string, ops ...api.Op) api.Sig {
	return api.Sig{Sorts: strings.Fields(sorts), Ops: ops}
}

// eq is an equation of so many variables of the sort 0; terms are those of conditions.
func eq(vars int, a, b api.Term, l ...api.Term) api.Eqn {
	e := api.Eqn{Vars: make([]int, vars), A: a, B: b}
	for i := 0; i < len(l); i += 2 {
		e.Conds = append(e.Conds, api.Pair{A: l[i], B: l[i+1]})
	}
	return e
}

func data(s api.Sig, l ...api.Eqn) api.Type { return api.Type{Sig: s, Eqns: l} }

// order is an order with one status.
func order(status int, places ...int) api.Order {
	o := api.Order{Place: places}
	for range places {
		o.Status = append(o.Status, status)
	}
	return o
}

// step is a step by an equation without conditions.
func step(eqn int, at ...int) api.Rstep { return api.Rstep{Eqn: eqn, At: at} }

// under is a step by an equation with conditions.
func under(s api.Rstep, conds ...api.Rjoin) api.Rstep {
	s.Conds = conds
	return s
}

// steps is a list of them.
func steps(l ...api.Rstep) []api.Rstep { return l }

// repeated is a list of the same steps so many times.
func repeated(many int, l ...api.Rstep) []api.Rstep {
	var out []api.Rstep
	for range many {
		out = append(out, l...)
	}
	return out
}

// times is a term with an operation around it so many times.
func times(n, many int, t api.Term) api.Term {
	for range many {
		t = op(n, t)
	}
	return t
}

// bush is a term of so many nodes: constants 0, and an operation n with two arguments, a with one.
func bush(n, a, nodes int) api.Term {
	switch nodes {
	case 1:
		return op(0)
	case 2:
		return op(a, op(0))
	}
	return op(n, bush(n, a, nodes/2), bush(n, a, nodes-1-nodes/2))
}

// doubled is a term of more nodes than can be looked at.
func doubled(n int) api.Term {
	t := op(0)
	for range 100 {
		t = op(n, t, t)
	}
	return t
}

// parts returns a term, and all terms within it.
func parts(t api.Term) []api.Term {
	l := []api.Term{t}
	for _, x := range t.L {
		l = append(l, parts(x)...)
	}
	return l
}

// same reports whether two values are equal, where nil and empty lists are the same.
func same(a, b any) bool { return sameValues(reflect.ValueOf(a), reflect.ValueOf(b)) }

func sameValues(a, b reflect.Value) bool {
	switch a.Kind() {
	case reflect.Slice:
		if a.Len() != b.Len() {
			return false
		}
		for i := range a.Len() {
			if !sameValues(a.Index(i), b.Index(i)) {
				return false
			}
		}
		return true
	case reflect.Struct:
		for i := range a.NumField() {
			if !sameValues(a.Field(i), b.Field(i)) {
				return false
			}
		}
		return true
	}
	return a.Equal(b)
}

// copied returns a value in memory of its own.
func copied[T any](x T) T {
	return copiedValue(reflect.ValueOf(x)).Interface().(T)
}

func copiedValue(x reflect.Value) reflect.Value {
	out := reflect.New(x.Type()).Elem()
	switch x.Kind() {
	case reflect.Slice:
		for i := range x.Len() {
			out = reflect.Append(out, copiedValue(x.Index(i)))
		}
	case reflect.Struct:
		for i := range x.NumField() {
			out.Field(i).Set(copiedValue(x.Field(i)))
		}
	default:
		out.Set(x)
	}
	return out
}

// memory is the bytes of lists that were met, behind their ends too, by their first and last ones.
type memory [][2]uintptr

// isNew adds the memory of a value, and reports whether none of it was there before.
func (m *memory) isNew(x reflect.Value) bool {
	switch x.Kind() {
	case reflect.Slice:
		if size := uintptr(x.Cap()) * x.Type().Elem().Size(); size > 0 {
			from := x.Pointer()
			for _, r := range *m {
				if from < r[1] && r[0] < from+size {
					return false
				}
			}
			*m = append(*m, [2]uintptr{from, from + size})
		}
		for i := range x.Len() {
			if !m.isNew(x.Index(i)) {
				return false
			}
		}
	case reflect.Struct:
		for i := range x.NumField() {
			if !m.isNew(x.Field(i)) {
				return false
			}
		}
	}
	return true
}

// untouched checks that a call changes no arguments, and that its results are new memory, no two lists of which share any.
func untouched(t *testing.T, what string, call func() []any, args ...any) {
	t.Helper()
	var before []any
	for _, x := range args {
		before = append(before, copiedValue(reflect.ValueOf(x)).Interface())
	}
	got := call()
	for i, x := range args {
		if !same(x, before[i]) {
			t.Errorf("%s changed its argument %d", what, i)
		}
	}
	var m memory
	for _, x := range args {
		m.isNew(reflect.ValueOf(x))
	}
	for i, x := range got {
		if !m.isNew(reflect.ValueOf(x)) {
			t.Errorf("%s: the result %d is no new memory", what, i)
		}
	}
}
