package show

import (
	"strings"

	"madrigal/api"
)

const (
	// mark stands for an argument in the name of an operation.
	mark = "_"

	// closed is the priority of what no operation can take apart.
	closed = api.MaxPrio + 1
)

// operation is how an operation is written, with its name and how many arguments it has.
type operation struct {
	api.Mix
	name string
	args int
}

func newOperation(m api.Mix) operation {
	name := strings.Join(m.Parts, mark)
	if m.Left {
		name = mark + name
	}
	if m.Right {
		name += mark
	}
	return operation{m, name, strings.Count(name, mark)}
}

// mixOf returns how an operation of a signature is written.
func mixOf(name string) api.Mix {
	m := api.Mix{Prio: api.MaxPrio, Side: api.SideNone}
	name, m.Left = strings.CutPrefix(name, mark)
	name, m.Right = strings.CutSuffix(name, mark)
	m.Parts = strings.Split(name, mark)
	return m
}

// openings returns the first parts of operations that have no argument ahead of them.
func openings(ops []api.Mix) map[string]bool {
	l := map[string]bool{}
	for _, m := range ops {
		if !m.Left {
			l[m.Parts[0]] = true
		}
	}
	return l
}

// priority returns the one of what the operation makes: with its own parts at both ends it is closed.
func (o operation) priority() int {
	if !o.Left && !o.Right {
		return closed
	}
	return o.Prio
}

// follows reports whether what has a priority can be the argument ahead of the operation.
func (o operation) follows(prio int) bool {
	return prio > o.Prio || prio == o.Prio && o.Side == api.SideLeft
}

// behind returns up to which number the argument behind the operation is read.
func (o operation) behind() int {
	if o.Side == api.SideRight || !o.Left {
		return o.Prio
	}
	return o.Prio + 1
}
