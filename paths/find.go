package paths

import (
	"iter"
	"slices"

	"madrigal/api"
	"madrigal/types"
)

// few is how many operations can occur in equations for which Find goes through all orders.
const few = 4

// Find returns the first order by which all equations decrease, and whether there is one.
func Find(t api.Type) (api.Order, bool, api.Errno) {
	if err := types.Check(t); err != api.OK {
		return api.Order{}, false, err
	}
	ops := occurring(t.Eqns...)
	if len(ops) > few {
		return api.Order{}, false, api.ErrLimit
	}
	eqns := slices.Clone(t.Eqns)
	for places, statuses := range orders(len(ops)) {
		o := orderOf(t.Sig)
		for i, n := range ops {
			o.Place[n], o.Status[n] = places[i], statuses[i]
		}
		if allDecrease(o, eqns) {
			return o, true, api.OK
		}
	}
	return api.Order{}, false, api.OK
}

// occurring returns the operations that occur in equations, in the order of their numbers.
func occurring(l ...api.Eqn) []int {
	met := map[int]bool{}
	var visit func(t api.Term)
	visit = func(t api.Term) {
		if t.Kind == api.KOp {
			met[t.N] = true
		}
		for _, x := range t.L {
			visit(x)
		}
	}
	for _, e := range l {
		for _, t := range terms(e) {
			visit(t)
		}
	}
	var ops []int
	for n := range met {
		ops = append(ops, n)
	}
	slices.Sort(ops)
	return ops
}

// orderOf returns an order in which all operations are like those that occur nowhere.
func orderOf(s api.Sig) api.Order {
	many := len(s.Ops)
	return api.Order{Place: slices.Repeat([]int{api.MaxPlace}, many), Status: slices.Repeat([]int{api.ByLeft}, many)}
}

// allDecrease reports whether all equations decrease by an order. One that does not is put first: by most other orders it does not, either.
func allDecrease(o api.Order, l []api.Eqn) bool {
	for i, e := range l {
		if !decreases(o, e) {
			l[0], l[i] = l[i], l[0]
			return false
		}
	}
	return true
}

// orders goes through the orders of so many operations, as Find looks at them.
func orders(many int) iter.Seq2[[]int, []int] {
	return func(yield func(places, statuses []int) bool) {
		for places := range lists(many, 0, many-1) {
			if !haveNoGap(places) {
				continue
			}
			for statuses := range lists(many, api.ByLeft, api.ByMulti) {
				if agree(places, statuses) && !yield(places, statuses) {
					return
				}
			}
		}
	}
}

// lists goes through the lists of so many numbers from one to another one, by the first numbers that differ. They are one list, which is changed behind each step.
func lists(many, from, to int) iter.Seq[[]int] {
	return func(yield func([]int) bool) {
		l := slices.Repeat([]int{from}, many)
		for yield(l) {
			i := many - 1
			for i >= 0 && l[i] == to {
				l[i] = from
				i--
			}
			if i < 0 {
				return
			}
			l[i]++
		}
	}
}

// haveNoGap reports whether each number from 0 up to the greatest one is there.
func haveNoGap(l []int) bool {
	for _, n := range l {
		if n > 0 && !slices.Contains(l, n-1) {
			return false
		}
	}
	return true
}

// agree reports whether equal places have equal statuses.
func agree(places, statuses []int) bool {
	for i, place := range places {
		if statuses[slices.Index(places, place)] != statuses[i] {
			return false
		}
	}
	return true
}
