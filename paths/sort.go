package paths

import (
	"slices"

	"madrigal/api"
)

// sorted is how many terms are sorted at most.
const sorted = 1000

// Sort returns terms such that none stands behind one that is greater.
func Sort(s api.Sig, o api.Order, l []api.Term) ([]api.Term, api.Errno) {
	if err := admitted(s, o, l...); err != api.OK {
		return nil, err
	}
	if len(l) > sorted {
		return nil, api.ErrLimit
	}
	c, parts := compared(o, l...)
	var out []api.Term
	for _, i := range leastFirst(len(l), func(i, j int) bool { return c.exceeds(parts[i], parts[j]) }) {
		out = append(out, clone(l[i]))
	}
	return out, api.OK
}

// leastFirst returns the numbers below many in an order: again and again the first one of those that are left than which none that is left is less.
func leastFirst(many int, isGreater func(i, j int) bool) []int {
	gone := make([]bool, many)
	lesser := func(i, from int) int {
		j := from
		for j < many && (gone[j] || !isGreater(i, j)) {
			j++
		}
		return j
	}
	// For each number the first one behind it that is left and less; many, if there is none. Those ahead of it need not be looked at: if some are less, one of these, or of those behind it, can be taken, and of two that can, the one ahead is.
	first := make([]int, many)
	for i := range first {
		first[i] = lesser(i, i+1)
	}
	var out []int
	for range many {
		least := slices.Index(first, many)
		out = append(out, least)
		gone[least], first[least] = true, -1
		for i, j := range first {
			if j == least {
				first[i] = lesser(i, least+1)
			}
		}
	}
	return out
}

func clone(t api.Term) api.Term {
	l := make([]api.Term, len(t.L))
	for i, x := range t.L {
		l[i] = clone(x)
	}
	t.L = l
	return t
}
