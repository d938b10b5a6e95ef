package paths

import (
	"iter"
	"slices"

	"madrigal/api"
)

// What a proof takes, in bytes. Each part of it is a struct with memory of its own, so that a proof can be far greater than what it is about: even the least one can double with each level.
const (
	greatest = 1<<31 - 1 // of a result of which anything is promised
	ofProof  = 64
	ofIndex  = 8
)

// prover finds proofs that are as small as can be.
type prover struct {
	*comparison
	costs map[pair]int
}

// start is how a proof can begin, and what has to be proved for it. Of equal parts, the empty proof will do.
type start struct {
	rule, at int
	to       []int
	claims   []claim
}

// proof returns a least proof that a is greater than b, where it is, or the empty one, where they are equal.
func (p *prover) proof(a, b *part) api.PathProof {
	if equal(a, b) {
		return api.PathProof{}
	}
	x, _ := p.best(a, b)
	l := make([]api.PathProof, len(x.claims))
	for i, y := range x.claims {
		l[i] = p.proof(y.a, y.b)
	}
	return api.PathProof{Rule: x.rule, At: x.at, To: x.to, L: l}
}

// cost returns what such a proof takes; the same for all that take more than the greatest one.
func (p *prover) cost(a, b *part) int {
	if equal(a, b) {
		return ofProof
	}
	id := pairOf(a, b)
	n, met := p.costs[id]
	if !met {
		_, n = p.best(a, b)
		p.costs[id] = n
	}
	return n
}

// best returns how a least proof begins, and what it takes.
func (p *prover) best(a, b *part) (start, int) {
	var best start
	least := greatest + 1
	for x := range p.starts(a, b) {
		n := ofProof + ofIndex*len(x.to)
		for _, y := range x.claims {
			n += p.cost(y.a, y.b)
		}
		if n < least {
			best, least = x, n
		}
	}
	return best, least
}

// starts goes through the ways in which a proof can begin.
func (p *prover) starts(a, b *part) iter.Seq[start] {
	return func(yield func(start) bool) {
		for i, x := range a.args {
			if equal(x, b) && !yield(start{rule: api.PathSub, at: i}) {
				return
			}
			if p.greater(x, b) && !yield(start{rule: api.PathSub, at: i, claims: []claim{{x, b}}}) {
				return
			}
		}
		switch {
		case p.byPlace(a, b):
			yield(start{rule: api.PathPlace, claims: aboveArgs(a, b)})
		case p.byList(a, b):
			n := agreeing(a, b)
			var first []claim
			if n < len(b.args) {
				first = []claim{{a.nth(n), b.nth(n)}}
			}
			yield(start{rule: api.PathLex, at: n, claims: append(first, aboveArgs(a, b)...)})
		case p.byMultiset(a, b):
			p.covers(a, b)(yield)
		}
	}
}

// aboveArgs returns the claims that a is greater than each argument of b.
func aboveArgs(a, b *part) []claim {
	var l []claim
	for _, y := range b.args {
		l = append(l, claim{a, y})
	}
	return l
}

// covers goes through the starts of proofs that the arguments of a are greater than those of b as multisets. Fewer pairs than can be may leave what makes a proof smaller.
func (p *prover) covers(a, b *part) iter.Seq[start] {
	return func(yield func(start) bool) {
		costs := p.table(a.args, b.args)
		for with := range pairings(a.args, b.args) {
			to, ok := covering(costs, with, len(a.args))
			if !ok {
				continue
			}
			x := start{rule: api.PathMulti, to: to}
			for j, i := range to {
				x.claims = append(x.claims, claim{a.args[i], b.args[j]})
			}
			if !yield(x) {
				return
			}
		}
	}
}

// table is the costs of proofs that parts are greater than others, 0 where they are not.
type table [api.MaxArgs][api.MaxArgs]int

func (p *prover) table(a, b []*part) *table {
	var costs table
	for i, x := range a {
		for j, y := range b {
			if p.greater(x, y) {
				costs[i][j] = p.cost(x, y)
			}
		}
	}
	return &costs
}

// unpaired stands for the other part of a pair, where there is none.
const unpaired = -1

// pairings goes through the ways to put parts b in pairs with equal parts a, each of which is in one pair at most: for each of b the index of the other one. The list is changed behind each step.
func pairings(a, b []*part) iter.Seq[[]int] {
	return func(yield func([]int) bool) {
		with := make([]int, len(b))
		var extend func(j int) bool
		extend = func(j int) bool {
			if j == len(b) {
				return yield(with)
			}
			with[j] = partner(a, b[j], with[:j])
			if with[j] != unpaired && !extend(j+1) {
				return false
			}
			with[j] = unpaired
			return extend(j + 1)
		}
		extend(0)
	}
}

// partner returns the first of some parts that is equal to y, and in no pair. Of others that are so, the proofs are the same.
func partner(l []*part, y *part, with []int) int {
	for i, x := range l {
		if equal(x, y) && !slices.Contains(with, i) {
			return i
		}
	}
	return unpaired
}

// covering returns, for each part of b, the one of so many of a with which it is in a pair, or the one in no pair that is greater at the least cost. It returns false if there is none for one of b. (Where a is greater, some part of it is in no pair then.)
func covering(costs *table, with []int, many int) ([]int, bool) {
	var left []int
	for i := range many {
		if !slices.Contains(with, i) {
			left = append(left, i)
		}
	}
	to := slices.Clone(with)
	for j := range to {
		if to[j] == unpaired {
			to[j] = cheapest(costs, left, j)
		}
	}
	return to, !slices.Contains(to, unpaired)
}

// cheapest returns which of some parts of a is greater than the part j of b at the least cost.
func cheapest(costs *table, l []int, j int) int {
	best := unpaired
	for _, i := range l {
		if costs[i][j] > 0 && (best == unpaired || costs[i][j] < costs[best][j]) {
			best = i
		}
	}
	return best
}
