package paths

import "madrigal/api"

// proves reports whether p is a proof that a is greater than b.
func proves(p api.PathProof, a, b *part) bool {
	if p.Rule < api.PathSub || p.Rule > api.PathMulti {
		return false
	}
	rules := [...]func(c claim, p api.PathProof) bool{api.PathSub: claim.isByPart, api.PathPlace: claim.isByPlace, api.PathLex: claim.isByList, api.PathMulti: claim.isByMultiset}
	return rules[p.Rule](claim{a, b}, p)
}

// claim is that a is greater than b.
type claim struct{ a, b *part }

func (c claim) isByPart(p api.PathProof) bool {
	if len(p.To) > 0 || p.At < 0 || p.At >= len(c.a.args) {
		return false
	}
	x := c.a.args[p.At]
	if equal(x, c.b) {
		return len(p.L) == 0
	}
	return len(p.L) == 1 && proves(p.L[0], x, c.b)
}

func (c claim) isByPlace(p api.PathProof) bool {
	return p.At == 0 && len(p.To) == 0 && isBelow(c.b, c.a) && c.areAboveArgs(p.L)
}

// areAboveArgs reports whether there is a proof for each argument of b that a is greater.
func (c claim) areAboveArgs(l []api.PathProof) bool {
	if len(l) != len(c.b.args) {
		return false
	}
	for j, y := range c.b.args {
		if !proves(l[j], c.a, y) {
			return false
		}
	}
	return true
}

func (c claim) isByList(p api.PathProof) bool {
	if len(p.To) > 0 || !areLists(c.a, c.b) || p.At != agreeing(c.a, c.b) || p.At >= len(c.a.args) {
		return false
	}
	l := p.L
	if p.At < len(c.b.args) {
		if len(l) == 0 || !proves(l[0], c.a.nth(p.At), c.b.nth(p.At)) {
			return false
		}
		l = l[1:]
	}
	return c.areAboveArgs(l)
}

func (c claim) isByMultiset(p api.PathProof) bool {
	many := len(c.b.args)
	if p.At != 0 || !areMultisets(c.a, c.b) || len(p.To) != many || len(p.L) != many {
		return false
	}
	used, paired := map[int]int{}, map[int]bool{}
	for j, i := range p.To {
		if i < 0 || i >= len(c.a.args) {
			return false
		}
		used[i]++
		if isEmpty(p.L[j]) {
			paired[i] = true
		}
	}
	for i := range paired {
		if used[i] > 1 {
			return false
		}
	}
	return len(paired) < len(c.a.args) && c.areCovered(p)
}

// areCovered reports whether each argument of b is less than the argument of a to which it leads, or equal to it.
func (c claim) areCovered(p api.PathProof) bool {
	for j, y := range c.b.args {
		x := c.a.args[p.To[j]]
		if isEmpty(p.L[j]) && !equal(x, y) || !isEmpty(p.L[j]) && !proves(p.L[j], x, y) {
			return false
		}
	}
	return true
}

func isEmpty(p api.PathProof) bool {
	return p.Rule == 0 && p.At == 0 && len(p.To) == 0 && len(p.L) == 0
}
