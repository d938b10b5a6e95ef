package show

import (
	"strconv"
	"strings"

	"madrigal/api"
	"madrigal/lex"
	"madrigal/parse"
)

func isName(s string) bool { return lex.Kind(s) == api.TkName }

// use is a name with a number of arguments.
type use struct {
	name string
	args int
}

// signature is a signature whose operations can be read.
type signature struct {
	api.Sig
	mixes     []api.Mix
	opening   map[string]bool // first parts of operations without an argument ahead of them
	constants map[string]bool // names of operations without arguments
	uses      map[use]int     // how many operations have a name with a number of arguments
}

func newSignature(s api.Sig) (*signature, api.Errno) {
	x := &signature{Sig: s, constants: map[string]bool{}, uses: map[use]int{}}
	for _, name := range s.Sorts {
		if !isName(name) {
			return nil, api.ErrNames
		}
	}
	for _, o := range s.Ops {
		if !x.addMix(o) {
			return nil, api.ErrNames
		}
		x.uses[use{o.Name, len(o.Args)}]++
	}
	if parse.CheckOps(x.mixes) != api.OK {
		return nil, api.ErrNames
	}
	x.opening = openings(x.mixes)
	for _, o := range s.Ops {
		if !x.canRead(o) {
			return nil, api.ErrNames
		}
		if len(o.Args) == 0 {
			x.constants[o.Name] = true
		}
	}
	return x, api.OK
}

// addMix adds how an operation is written that has arguments within its name, unless another one with this name has done so. It returns false if that cannot be.
func (x *signature) addMix(o api.Op) bool {
	args := strings.Count(o.Name, mark)
	if args == 0 || x.uses[use{o.Name, args}] > 0 {
		return args == 0 || args == len(o.Args)
	}
	m := mixOf(o.Name)
	name, err := parse.MixName(m)
	x.mixes = append(x.mixes, m)
	return err == api.OK && name == o.Name && args == len(o.Args)
}

// canRead reports whether an operation without arguments within its name can be read.
func (x *signature) canRead(o api.Op) bool {
	if strings.Contains(o.Name, mark) {
		return true
	}
	switch lex.Kind(o.Name) {
	case api.TkName, api.TkSym:
		return !x.opening[o.Name]
	case api.TkNum:
		n, err := strconv.Atoi(o.Name)
		return err == nil && strconv.Itoa(n) == o.Name && len(o.Args) == 0
	}
	return false
}

// isReserved reports whether no variable can have a name, because an operation is read where it stands.
func (x *signature) isReserved(name string) bool { return x.constants[name] || x.opening[name] }

// canName reports whether variables can have these names.
func (x *signature) canName(vars []string) bool {
	for _, name := range vars {
		if x.isReserved(name) {
			return false
		}
	}
	return len(vars) <= api.MaxVars && areNames(vars)
}

// areGates reports whether gates can have these names.
func areGates(names []string) bool { return len(names) <= api.MaxGates && areNames(names) }

// areNames reports whether names are different ones, which can be read.
func areNames(names []string) bool {
	known := map[string]bool{}
	for _, name := range names {
		if known[name] || !isName(name) {
			return false
		}
		known[name] = true
	}
	return true
}
