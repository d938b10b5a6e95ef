package parse

import (
	"strings"

	"madrigal/api"
	"madrigal/lex"
)

// mark stands for an argument in the name of an operation.
const mark = "_"

// nameOf returns the name of an operation that is written so.
func nameOf(m api.Mix) string {
	name := strings.Join(m.Parts, mark)
	if m.Left {
		name = mark + name
	}
	if m.Right {
		name += mark
	}
	return name
}

// mixOf returns how an operation with a shape and the number of its node is written.
func mixOf(shape string, number int) api.Mix {
	m := api.Mix{Prio: number / 4, Side: number % 4}
	shape, m.Left = strings.CutPrefix(shape, mark)
	shape, m.Right = strings.CutSuffix(shape, mark)
	m.Parts = strings.Split(shape, mark)
	return m
}

// declared returns the operations with arguments within their names that a tree declares, each different one once.
func declared(n api.Node) []api.Mix {
	type writing struct {
		shape  string
		number int
	}
	var l []api.Mix
	known := map[writing]bool{}
	var look func(n api.Node)
	look = func(n api.Node) {
		if n.Kind != api.NdOp {
			for _, x := range n.L {
				look(x)
			}
			return
		}
		w := writing{n.S, n.N}
		if strings.Contains(n.S, mark) && !known[w] {
			known[w] = true
			l = append(l, mixOf(n.S, n.N))
		}
	}
	look(n)
	return l
}

// toldApart reports whether operations can be told apart, and are all different.
func toldApart(ops []api.Mix) bool {
	if len(ops) > api.MaxOps {
		return false
	}
	type opening struct {
		part string
		left bool
	}
	known := map[opening]bool{}
	for _, m := range ops {
		if !isRight(m) {
			return false
		}
		o := opening{m.Parts[0], m.Left}
		if known[o] {
			return false
		}
		known[o] = true
	}
	return true
}

// maxParts is how many parts an operation can have.
const maxParts = 8

func isRight(m api.Mix) bool {
	if len(m.Parts) < 1 || len(m.Parts) > maxParts || m.Prio < 1 || m.Prio > api.MaxPrio {
		return false
	}
	if m.Side != api.SideNone && m.Side != api.SideLeft && m.Side != api.SideRight {
		return false
	}
	for _, part := range m.Parts {
		if kind := lex.Kind(part); kind != api.TkName && kind != api.TkSym {
			return false
		}
	}
	return m.Left || m.Right || len(m.Parts) > 1
}
