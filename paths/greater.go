package paths

import (
	"slices"

	"madrigal/api"
)

// Pairs of parts are remembered, all of them if they are no more than allPairs. Otherwise they are forgotten between comparisons, as soon as they are more than fewPairs: a small map is quick, and much of a great one is asked for just once.
const (
	allPairs = 1 << 22
	fewPairs = 1 << 14
)

// exceeds is greater for terms of which many are compared, one after the other.
func (c *comparison) exceeds(a, b *part) bool {
	if parts := len(c.numbers); len(c.known) > fewPairs && parts*parts > allPairs {
		clear(c.known)
	}
	return c.greater(a, b)
}

// greater reports whether a is greater than b.
func (c *comparison) greater(a, b *part) bool {
	if a.place == variable {
		return false
	}
	id := pairOf(a, b)
	is, met := c.known[id]
	if !met {
		is = c.follows(a, b)
		c.known[id] = is
	}
	return is
}

// follows reports whether a, an operation, is greater than b by one of the rules.
func (c *comparison) follows(a, b *part) bool {
	rules := [...]func(c *comparison, a, b *part) bool{(*comparison).byPart, (*comparison).byPlace, (*comparison).byList, (*comparison).byMultiset}
	for _, rule := range rules {
		if rule(c, a, b) {
			return true
		}
	}
	return false
}

func (c *comparison) byPart(a, b *part) bool {
	return slices.ContainsFunc(a.args, func(x *part) bool { return equal(x, b) || c.greater(x, b) })
}

func (c *comparison) byPlace(a, b *part) bool { return isBelow(b, a) && c.isAboveArgs(a, b) }

// isBelow reports whether b is an operation with a lesser place than a's.
func isBelow(b, a *part) bool { return b.place != variable && b.place < a.place }

// isAboveArgs reports whether a is greater than each argument of b.
func (c *comparison) isAboveArgs(a, b *part) bool {
	return !slices.ContainsFunc(b.args, func(y *part) bool { return !c.greater(a, y) })
}

func (c *comparison) byList(a, b *part) bool {
	if !areLists(a, b) {
		return false
	}
	n := agreeing(a, b)
	return n < len(a.args) && (n == len(b.args) || c.greater(a.nth(n), b.nth(n))) && c.isAboveArgs(a, b)
}

// areLists reports whether two operations have equal places, and compare their arguments as lists.
func areLists(a, b *part) bool { return a.place == b.place && a.status != api.ByMulti }

// areMultisets reports whether two operations have equal places, and compare their arguments as multisets.
func areMultisets(a, b *part) bool { return a.place == b.place && a.status == api.ByMulti }

func (c *comparison) byMultiset(a, b *part) bool {
	if !areMultisets(a, b) {
		return false
	}
	more, less := without(a.args, b.args), without(b.args, a.args)
	isLess := func(y *part) bool {
		return slices.ContainsFunc(more, func(x *part) bool { return c.greater(x, y) })
	}
	return len(more) > 0 && !slices.ContainsFunc(less, func(y *part) bool { return !isLess(y) })
}

// without returns what is left of a list, if as many parts as can be are left out together with equal ones of another list.
func without(l, others []*part) []*part {
	var left []*part
	others = slices.Clone(others)
	for _, x := range l {
		i := slices.IndexFunc(others, func(y *part) bool { return equal(x, y) })
		if i < 0 {
			left = append(left, x)
		} else {
			others = slices.Delete(others, i, i+1)
		}
	}
	return left
}
