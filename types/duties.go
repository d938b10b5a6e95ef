package types

import "madrigal/api"

// Duties returns the equations that have to hold in a module.
func Duties(l []api.Module, k int) ([]api.Duty, api.Errno) {
	all, err := builtWith(l, k)
	if err != api.OK {
		return nil, err
	}
	d := duties{modules: l, all: all, known: map[int][]api.Duty{}}
	if err := attempt(func() { d.in(k) }); err != api.OK {
		return nil, err
	}
	return d.known[k], api.OK
}

// duties is the duties in modules that were asked for.
type duties struct {
	modules []api.Module
	all     []building
	known   map[int][]api.Duty
}

// dutyKey is what equal duties have in common.
type dutyKey struct {
	module int
	eqn    string
}

// in returns the duties in a module, and throws ErrLimit if there are too many in it, or in one that it uses.
func (d *duties) in(k int) []api.Duty {
	if l, asked := d.known[k]; asked {
		return l
	}
	var l []api.Duty
	met := map[dutyKey]bool{}
	add := func(module int, e api.Eqn) {
		id := dutyKey{module, key(e)}
		if met[id] {
			return
		}
		met[id] = true
		l = append(l, api.Duty{Module: module, Eqn: e})
		demand(len(l) <= api.MaxDuties, api.ErrLimit)
	}
	for i, n := range d.modules[k].Uses {
		for _, x := range d.in(n) {
			add(x.Module, image(x.Eqn, d.all[k].into[i]))
		}
	}
	for _, e := range d.all[k].owed {
		add(k, e)
	}
	d.known[k] = l
	return l
}
