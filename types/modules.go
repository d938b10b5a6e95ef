package types

import (
	"iter"
	"slices"
	"strings"

	"madrigal/api"
)

// CheckModules returns ErrModule unless l is a list of modules.
func CheckModules(l []api.Module) api.Errno {
	_, err := built(l)
	return err
}

// Flatten returns what a module amounts to.
func Flatten(l []api.Module, k int) (api.Flat, api.Errno) {
	all, err := builtWith(l, k)
	if err != api.OK {
		return api.Flat{}, err
	}
	return all[k].flat, api.OK
}

// Into returns the morphism of a used module into one that uses it.
func Into(l []api.Module, k, use int) (api.Morph, api.Errno) {
	all, err := builtWith(l, k)
	if err != api.OK {
		return api.Morph{}, err
	}
	if use < 0 || use >= len(l[k].Uses) {
		return api.Morph{}, api.ErrArg
	}
	return all[k].into[use], api.OK
}

// Closed returns the type of a module without formal parts.
func Closed(l []api.Module, k int) (api.Type, api.Errno) {
	all, err := builtWith(l, k)
	if err != api.OK {
		return api.Type{}, err
	}
	f := all[k].flat
	if slices.Contains(f.Sorts, true) || slices.Contains(f.Ops, true) || slices.Contains(f.Eq, true) {
		return api.Type{}, api.ErrOpen
	}
	return f.Type, api.OK
}

// building is what a module amounts to, the morphisms of its used modules into that, and the images of formal equations that it owes.
type building struct {
	flat api.Flat
	into []api.Morph
	owed []api.Eqn
}

// builtWith returns what all modules amount to, of a list that has an index.
func builtWith(l []api.Module, k int) ([]building, api.Errno) {
	all, err := built(l)
	if err != api.OK {
		return nil, err
	}
	if k < 0 || k >= len(l) {
		return nil, api.ErrArg
	}
	return all, api.OK
}

func built(l []api.Module) ([]building, api.Errno) {
	if len(l) > api.MaxModules {
		return nil, api.ErrModule
	}
	var all []building
	names := map[string]bool{}
	err := attempt(func() {
		for i, m := range l {
			demand(isName(m.Name) && !names[m.Name] && areBelow(i, m.Uses), api.ErrModule)
			names[m.Name] = true
			all = append(all, build(all, m))
		}
	})
	if err != api.OK {
		return nil, err
	}
	return all, api.OK
}

// isName reports whether a text is a name: as one of a sort, which only must not have what stands for arguments.
func isName(s string) bool { return isSortName(strings.ReplaceAll(s, "_", "-")) }

func isSortName(s string) bool { return areSignatures(api.Sig{Sorts: []string{s}}) }

// isShaped reports whether a module has as many uses as its kind asks for, and nothing in fields that its kind does not name.
func isShaped(m api.Module) bool {
	names, standIns, own := len(m.Sorts)+len(m.Ops), len(m.SortTo)+len(m.OpTo), size(m.Formal)+size(m.Own)
	switch m.Kind {
	case api.MoText:
		return names+standIns == 0 && areDifferent(m.Uses)
	case api.MoRename:
		return standIns+own == 0 && len(m.Uses) == 1
	case api.MoActual:
		return names+own == 0 && len(m.Uses) == 2
	}
	return false
}

func size(t api.Type) int { return len(t.Sig.Sorts) + len(t.Sig.Ops) + len(t.Eqns) }

func areDifferent(l []int) bool {
	met := map[int]bool{}
	for _, n := range l {
		met[n] = true
	}
	return len(met) == len(l)
}

// build returns what a module amounts to that is made of some of those ahead of it.
func build(ahead []building, m api.Module) building {
	demand(isShaped(m), api.ErrModule)
	var used []api.Flat
	for _, n := range m.Uses {
		used = append(used, ahead[n].flat)
	}
	switch m.Kind {
	case api.MoText:
		return text(used, m)
	case api.MoRename:
		return renaming(used[0], m)
	default:
		return actual(used[0], used[1], m)
	}
}

// text builds MoText.
func text(used []api.Flat, m api.Module) building {
	b := newBuilder()
	var into []api.Morph
	for _, f := range used {
		into = append(into, b.include(f, standIns{}))
	}
	b.write(m.Formal.Sig, true)
	formal := b.signature()
	b.write(m.Own.Sig, false)
	demand(!b.hasTooManyParts(), api.ErrLimit)
	for i, f := range used {
		b.adopt(f, into[i])
	}
	b.state(formal, m.Formal.Eqns, true)
	b.state(b.signature(), m.Own.Eqns, false)
	demand(!b.hasTooManyEquations(), api.ErrLimit)
	return building{flat: b.flat(), into: into}
}

// write adds sorts and operations that have to be new.
func (b *builder) write(s api.Sig, formal bool) {
	for _, name := range s.Sorts {
		demand(isSortName(name), api.ErrModule)
		_, isNew := join(&b.sorts, name, name, formal)
		demand(isNew, api.ErrModule)
	}
	for _, o := range s.Ops {
		demand(isOperation(len(b.sorts.list), o), api.ErrModule)
		o.Args = slices.Clone(o.Args)
		_, isNew := join(&b.ops, o, profileOf(o), formal)
		demand(isNew, api.ErrModule)
	}
}

// isOperation reports whether o is an operation over so many sorts. A name fits the number of arguments only, so one sort is enough to ask for it.
func isOperation(sorts int, o api.Op) bool {
	alone := api.Op{Name: o.Name, Args: make([]int, len(o.Args))}
	return areBelow(sorts, o.Args) && areBelow(sorts, []int{o.Res}) && areSignatures(api.Sig{Sorts: []string{"s"}, Ops: []api.Op{alone}})
}

// state adds equations that have to be some over a signature.
func (b *builder) state(s api.Sig, l []api.Eqn, formal bool) {
	for _, e := range l {
		demand(isEquation(s, e), api.ErrModule)
		b.eqn(standard(e), formal)
	}
}

// renaming builds MoRename.
func renaming(f api.Flat, m api.Module) building {
	demand(len(m.Sorts) == len(f.Sorts) && len(m.Ops) == len(f.Ops), api.ErrModule)
	s := api.Sig{Sorts: slices.Clone(m.Sorts)}
	for i, o := range f.Type.Sig.Ops {
		o.Name = m.Ops[i]
		s.Ops = append(s.Ops, o)
	}
	demand(areSignatures(s), api.ErrModule)
	f.Type.Sig = s
	return building{flat: f, into: []api.Morph{identity(s)}}
}

// actual builds MoActual.
func actual(first, second api.Flat, m api.Module) building {
	by := standIns{sorts: standIn(first.Sorts, m.SortTo, len(second.Sorts)), ops: standIn(first.Ops, m.OpTo, len(second.Ops))}
	b := newBuilder()
	stays := b.include(second, standIns{})
	becomes := b.include(first, by)
	demand(!b.hasTooManyParts(), api.ErrLimit)
	b.adopt(second, stays)
	var owed []api.Eqn
	for i, e := range first.Type.Eqns {
		e = image(e, becomes)
		if first.Eq[i] {
			owed = append(owed, e)
		} else {
			b.eqn(e, false)
		}
	}
	demand(!b.hasTooManyEquations(), api.ErrLimit)
	return building{flat: b.flat(), into: []api.Morph{becomes, stays}, owed: owed}
}

// standIn returns which part, of so many, stands for each formal one.
func standIn(formal []bool, to []int, many int) map[int]int {
	demand(areBelow(many, to), api.ErrModule)
	by := map[int]int{}
	for n := range marked(formal) {
		demand(len(by) < len(to), api.ErrModule)
		by[n] = to[len(by)]
	}
	demand(len(by) == len(to), api.ErrModule)
	return by
}

// marked goes through the numbers of the parts that are formal.
func marked(formal []bool) iter.Seq[int] {
	return func(yield func(int) bool) {
		for n, is := range formal {
			if is && !yield(n) {
				return
			}
		}
	}
}
