package sig

import (
	"cmp"
	"slices"

	"madrigal/api"
)

// Tree returns ErrTerm unless t is a tree.
func Tree(t api.Term) api.Errno {
	if !isTree(t, func(api.Term) bool { return true }) {
		return api.ErrTerm
	}
	return api.OK
}

// areTrees returns ErrTerm unless all of them are trees.
func areTrees(l ...api.Term) api.Errno {
	for _, t := range l {
		if err := Tree(t); err != api.OK {
			return err
		}
	}
	return api.OK
}

// isTree reports whether t is a tree whose nodes are as also says.
func isTree(t api.Term, also func(api.Term) bool) bool {
	fits := limits()
	return walk(t, 1, func(x api.Term, deep int) bool {
		return fits(deep) && isNode(x) && also(x)
	})
}

func isNode(t api.Term) bool {
	switch t.Kind {
	case api.KVar:
		return t.N >= 0 && len(t.L) == 0
	case api.KOp:
		return t.N >= 0 && len(t.L) <= api.MaxArgs
	}
	return false
}

// limits returns a function that is told of each node of a tree, and returns false from the first one on that is too many or too deep. Nobody goes on from there: where much is shared, there can be far more nodes than memory.
func limits() func(deep int) bool {
	left := api.MaxNodes
	return func(deep int) bool {
		left--
		return left >= 0 && deep <= api.MaxDeep
	}
}

// walk goes through a tree, a node ahead of its elements, from left to right, until see returns false. It reports whether it came to the end.
func walk(t api.Term, deep int, see func(t api.Term, deep int) bool) bool {
	if !see(t, deep) {
		return false
	}
	for _, x := range t.L {
		if !walk(x, deep+1, see) {
			return false
		}
	}
	return true
}

// Same reports whether two trees are equal.
func Same(a, b api.Term) bool { return Compare(a, b) == 0 }

// Compare compares two trees.
func Compare(a, b api.Term) int {
	order := cmp.Or(cmp.Compare(a.Kind, b.Kind), cmp.Compare(a.N, b.N), cmp.Compare(len(a.L), len(b.L)))
	if order != 0 {
		return order
	}
	return slices.CompareFunc(a.L, b.L, Compare)
}

// Size returns how many nodes a tree has, and how deep it is.
func Size(t api.Term) (int, int) {
	nodes, deepest := 0, 0
	fits := limits()
	if !walk(t, 1, func(_ api.Term, deep int) bool {
		nodes++
		deepest = max(deepest, deep)
		return fits(deep)
	}) {
		return api.MaxNodes + 1, api.MaxDeep + 1
	}
	return nodes, deepest
}

// Vars returns the variables of trees, each once, by their first occurrence.
func Vars(l []api.Term) []int {
	if areTrees(l...) != api.OK {
		return nil
	}
	return variables(l...)
}

// variables is Vars of what is known to be trees.
func variables(l ...api.Term) []int {
	var vars []int
	met := map[int]bool{}
	for _, t := range l {
		walk(t, 1, func(x api.Term, _ int) bool {
			if x.Kind == api.KVar && !met[x.N] {
				met[x.N] = true
				vars = append(vars, x.N)
			}
			return true
		})
	}
	return vars
}

// greatest returns the greatest variable of trees, -1 if they have none.
func greatest(l ...api.Term) int {
	last := -1
	for _, n := range variables(l...) {
		last = max(last, n)
	}
	return last
}

// Ground reports whether a tree has no variables.
func Ground(t api.Term) bool {
	return isTree(t, func(x api.Term) bool { return x.Kind == api.KOp })
}
