package paths

import (
	"madrigal/api"
	"madrigal/types"
)

// Check returns ErrOrder unless all equations of a type decrease by an order.
func Check(t api.Type, o api.Order) api.Errno {
	_, isOne, err := Blame(t, o)
	if err == api.OK && isOne {
		return api.ErrOrder
	}
	return err
}

// Blame returns the first equation that does not decrease, and whether there is one.
func Blame(t api.Type, o api.Order) (int, bool, api.Errno) {
	if err := types.Check(t); err != api.OK {
		return 0, false, err
	}
	if !isOrder(o, len(t.Sig.Ops)) {
		return 0, false, api.ErrOrder
	}
	for i, e := range t.Eqns {
		if !decreases(o, e) {
			return i, true, api.OK
		}
	}
	return 0, false, api.OK
}

// decreases reports whether the left side of an equation is greater than all other terms of it.
func decreases(o api.Order, e api.Eqn) bool {
	c, left := compared(o, e.A)
	for _, t := range terms(e)[1:] {
		if !c.exceeds(left[0], c.part(t)) {
			return false
		}
	}
	return true
}

// terms returns the terms of an equation, the left side first.
func terms(e api.Eqn) []api.Term {
	l := []api.Term{e.A, e.B}
	for _, c := range e.Conds {
		l = append(l, c.A, c.B)
	}
	return l
}
