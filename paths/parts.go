package paths

import (
	"slices"

	"madrigal/api"
)

// variable is what variables have for a place: less than each place of an operation.
const variable = -1

// part is a node of a term that is compared, with the place and the status of its operation. Equal parts have the same number.
type part struct {
	number, place, status int
	args                  []*part
}

// kind is what equal parts, and no others, have in common: the numbers of their arguments, in increasing order if these are compared as multisets. A variable has its own number for many.
type kind struct {
	place, many int
	args        [api.MaxArgs]int
}

// pair is the numbers of two parts, which are few enough to be small.
type pair struct{ a, b int32 }

func pairOf(a, b *part) pair { return pair{int32(a.number), int32(b.number)} }

// comparison is terms that are compared by an order, and what is known of their parts: there are far fewer pairs of parts than ways that lead to them.
type comparison struct {
	order   api.Order
	numbers map[kind]int
	known   map[pair]bool
}

// compared returns a comparison of terms, and what the terms are in it.
func compared(o api.Order, terms ...api.Term) (*comparison, []*part) {
	c := &comparison{order: o, numbers: map[kind]int{}, known: map[pair]bool{}}
	var l []*part
	for _, t := range terms {
		l = append(l, c.part(t))
	}
	return c, l
}

// part returns the part that a term is.
func (c *comparison) part(t api.Term) *part {
	if t.Kind == api.KVar {
		return &part{place: variable, number: c.number(kind{place: variable, many: t.N})}
	}
	p := &part{place: c.order.Place[t.N], status: c.order.Status[t.N]}
	k := kind{place: p.place, many: len(t.L)}
	for i, x := range t.L {
		arg := c.part(x)
		p.args = append(p.args, arg)
		k.args[i] = arg.number
	}
	if p.status == api.ByMulti {
		slices.Sort(k.args[:len(t.L)])
	}
	p.number = c.number(k)
	return p
}

func (c *comparison) number(k kind) int {
	n, met := c.numbers[k]
	if !met {
		n = len(c.numbers)
		c.numbers[k] = n
	}
	return n
}

func equal(a, b *part) bool { return a.number == b.number }

// nth returns the argument behind n others, from the side from which they are compared.
func (p *part) nth(n int) *part {
	if p.status == api.ByRight {
		return p.args[len(p.args)-1-n]
	}
	return p.args[n]
}

// agreeing returns how many arguments of both are equal, from the side from which they are compared, up to the first ones that are not.
func agreeing(a, b *part) int {
	n := 0
	for n < len(a.args) && n < len(b.args) && equal(a.nth(n), b.nth(n)) {
		n++
	}
	return n
}
