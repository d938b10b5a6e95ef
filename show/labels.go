package show

import "madrigal/api"

// gateOf returns as what the gate of a label is written, false if it is none.
func gateOf(l api.Label, gates []string) (string, bool) {
	switch l.Gate {
	case api.GInt:
		return "i", true
	case api.GExit:
		return "exit", true
	case api.GTick:
		return "tick", true
	}
	if l.Gate < 0 || l.Gate >= len(gates) {
		return "", false
	}
	return gates[l.Gate], true
}

func (w *texts) label(gate string, values []api.Node) {
	w.put(gate)
	for _, n := range values {
		w.put("!")
		w.whole(n)
	}
}
