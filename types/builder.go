package types

import "madrigal/api"

// fault is thrown by what is no module, or too large.
type fault struct{ err api.Errno }

// attempt returns the error that is thrown, OK if none is.
func attempt(do func()) (err api.Errno) {
	defer func() {
		if f, ok := recover().(fault); ok {
			err = f.err
		}
	}()
	do()
	return api.OK
}

func demand(ok bool, err api.Errno) {
	if !ok {
		panic(fault{err})
	}
}

// parts is the parts of one kind that a flat in the making has, each once: which of them are formal, and the number of each one by what tells it from others.
type parts[P any, K comparable] struct {
	list   []P
	formal []bool
	number map[K]int
}

// join puts a part behind those that are there, unless it is one of them. It returns its number, and whether it is new.
func join[P any, K comparable](there *parts[P, K], p P, key K, formal bool) (int, bool) {
	if n, known := there.number[key]; known {
		return n, false
	}
	n := len(there.list)
	there.list = append(there.list, p)
	there.formal = append(there.formal, formal)
	there.number[key] = n
	return n, true
}

// profile is what makes operations the same.
type profile struct {
	name      string
	args      [api.MaxArgs]int
	many, res int
}

func profileOf(o api.Op) profile {
	p := profile{name: o.Name, many: len(o.Args), res: o.Res}
	copy(p.args[:], o.Args)
	return p
}

// builder is a flat in the making. It can become too large, so that everything that is wrong is found ahead of that.
type builder struct {
	sorts parts[string, string]
	ops   parts[api.Op, profile]
	eqns  parts[api.Eqn, string]
}

func newBuilder() *builder {
	return &builder{
		sorts: parts[string, string]{number: map[string]int{}},
		ops:   parts[api.Op, profile]{number: map[profile]int{}},
		eqns:  parts[api.Eqn, string]{number: map[string]int{}},
	}
}

// signature returns the sorts and operations that are there so far; those that are added later are not seen in it.
func (b *builder) signature() api.Sig {
	return api.Sig{Sorts: b.sorts.list, Ops: b.ops.list}
}

func (b *builder) flat() api.Flat {
	return api.Flat{Type: api.Type{Sig: b.signature(), Eqns: b.eqns.list}, Sorts: b.sorts.formal, Ops: b.ops.formal, Eq: b.eqns.formal}
}

func (b *builder) hasTooManyParts() bool {
	return len(b.sorts.list) > api.MaxSorts || len(b.ops.list) > api.MaxOps
}

func (b *builder) hasTooManyEquations() bool { return len(b.eqns.list) > api.MaxEqns }

// sort adds a sort, and throws ErrModule if it is there with another mark.
func (b *builder) sort(name string, formal bool) int {
	n, _ := join(&b.sorts, name, name, formal)
	demand(b.sorts.formal[n] == formal, api.ErrModule)
	return n
}

// op adds an operation, and throws ErrModule if it is there with another mark.
func (b *builder) op(o api.Op, formal bool) int {
	n, _ := join(&b.ops, o, profileOf(o), formal)
	demand(b.ops.formal[n] == formal, api.ErrModule)
	return n
}

// eqn adds a standard equation.
func (b *builder) eqn(e api.Eqn, formal bool) {
	n, _ := join(&b.eqns, e, key(e), formal)
	b.eqns.formal[n] = b.eqns.formal[n] && formal
}

// standIns says which parts that are there take the places of parts of a flat that is added.
type standIns struct{ sorts, ops map[int]int }

// include adds the sorts and operations of a flat, and returns what they are here. It throws ErrModule if a stand-in does not fit.
func (b *builder) include(f api.Flat, by standIns) api.Morph {
	var m api.Morph
	for i, name := range f.Type.Sig.Sorts {
		n, replaced := by.sorts[i]
		if !replaced {
			n = b.sort(name, f.Sorts[i])
		}
		m.Sorts = append(m.Sorts, n)
	}
	for i, o := range f.Type.Sig.Ops {
		o = moved(o, m)
		n, replaced := by.ops[i]
		if !replaced {
			n = b.op(o, f.Ops[i])
		}
		demand(sameRank(o, b.ops.list[n]), api.ErrModule)
		m.Ops = append(m.Ops, n)
	}
	return m
}

// adopt adds the equations of a flat, under a morphism.
func (b *builder) adopt(f api.Flat, m api.Morph) {
	for i, e := range f.Type.Eqns {
		b.eqn(image(e, m), f.Eq[i])
	}
}

// unmarked returns a type as a flat in which nothing is formal.
func unmarked(t api.Type) api.Flat {
	f := api.Flat{Type: api.Type{Sig: t.Sig}, Sorts: make([]bool, len(t.Sig.Sorts)), Ops: make([]bool, len(t.Sig.Ops)), Eq: make([]bool, len(t.Eqns))}
	for _, e := range t.Eqns {
		f.Type.Eqns = append(f.Type.Eqns, standard(e))
	}
	return f
}
