package parse

import "madrigal/api"

// closed is the priority of what no operation can take apart.
const closed = api.MaxPrio + 1

// operation is how an operation is written, with its name.
type operation struct {
	api.Mix
	name string
}

// priority returns the one of what the operation makes: with its own parts at both ends, it is closed.
func (o operation) priority() int {
	if !o.Left && !o.Right {
		return closed
	}
	return o.Prio
}

// follows reports whether what has a priority can be the argument ahead of it.
func (o operation) follows(prio int) bool {
	return prio > o.Prio || prio == o.Prio && o.Side == api.SideLeft
}

// behind returns up to which number the argument behind it is read.
func (o operation) behind() int {
	if o.Side == api.SideRight || !o.Left {
		return o.Prio
	}
	return o.Prio + 1
}

// reader reads expressions by operations, which are found by their first parts: those that open an expression, and those with an argument ahead of it.
type reader struct {
	*state
	opening, following map[string]operation
}

func newReader(s *state, ops []api.Mix) *reader {
	r := &reader{state: s, opening: map[string]operation{}, following: map[string]operation{}}
	for _, m := range ops {
		o := operation{m, nameOf(m)}
		if o.Left {
			r.following[o.Parts[0]] = o
		} else {
			r.opening[o.Parts[0]] = o
		}
	}
	return r
}

// extent reads an expression that has all tokens up to end. It cannot go further: a bracket or a comma that is none of its own ends an extent, too.
func (r *reader) extent(end int) api.Node {
	n, _ := r.upTo(0)
	if r.at < end {
		r.refuse()
	}
	return n
}

// upTo reads an expression up to a number, and returns the priority of what was read, too.
func (r *reader) upTo(limit int) (api.Node, int) {
	from := r.at
	n, prio := r.first(limit)
	for {
		if r.skip("of") {
			sort := r.name().S
			n, prio = r.named(api.NdOf, from, sort, n), closed
			continue
		}
		o, ok := r.following[r.part()]
		if !ok || o.priority() < limit || !o.follows(prio) {
			return n, prio
		}
		r.at++
		n, prio = r.rest(o, from, n), o.priority()
	}
}

// part returns the part that stands here, nothing if it is none.
func (r *reader) part() string {
	if t := r.look(0); isPart(t) {
		return t.S
	}
	return ""
}

func (r *reader) first(limit int) (api.Node, int) {
	from := r.at
	if isNumber(r.look(0)) {
		n := r.digits()
		n.Kind = api.NdApp
		return n, closed
	}
	if r.skip("(") {
		n, _ := r.upTo(0)
		r.want(")")
		return r.placed(n, from), closed
	}
	o, ok := r.opening[r.part()]
	if !ok {
		return r.application(), closed
	}
	if o.priority() < limit {
		r.refuse()
	}
	r.at++
	return r.rest(o, from), o.priority()
}

// application reads a part that opens no operation, with its arguments in brackets.
func (r *reader) application() api.Node {
	from := r.at
	name := r.take(isPart).S
	var l []api.Node
	if r.skip("(") {
		l = r.arguments()
		r.want(")")
	}
	return r.named(api.NdApp, from, name, l...)
}

func (r *reader) arguments() []api.Node {
	var l []api.Node
	for {
		n, _ := r.upTo(0)
		l = append(l, n)
		if !r.skip(",") {
			return l
		}
	}
}

// rest reads what stands behind the first part of an operation.
func (r *reader) rest(o operation, from int, l ...api.Node) api.Node {
	for _, part := range o.Parts[1:] {
		n, _ := r.upTo(0)
		l = append(l, n)
		r.take(func(t api.Token) bool { return isPart(t) && t.S == part })
	}
	if o.Right {
		n, _ := r.upTo(o.behind())
		l = append(l, n)
	}
	return r.named(api.NdApp, from, o.name, l...)
}
