package walks

import (
	"demon/fold"
	"demon/whole"
)

// Trees of a network.
func Trees(g Net) (int, error) {
	if err := Valid(g); err != nil {
		return 0, err
	}
	vertices := make([]int, g.N)
	for v := range vertices {
		vertices[v] = v
	}
	f, err := whole.Told(fold.Of(weights(g), vertices).Trees())
	return f.Num, err
}

// Short: two vertices become one.
func Short(g Net, a, b int) (Net, error) {
	if err := pairError(g, a, b); err != nil {
		return Net{}, err
	}
	return short(g, a, b), nil
}

// short without a look at what is given.
func short(g Net, a, b int) Net {
	lesser, greater := min(a, b), max(a, b)
	return g.renumbered(g.N-1, func(v int) int {
		switch {
		case v == greater:
			return lesser
		case v > greater:
			return v - 1
		}
		return v
	})
}

// renumbered has n vertices, the numbers that a function tells of those that were there. Wires whose ends become one vertex go.
func (g Net) renumbered(n int, number func(v int) int) Net {
	out := Net{N: n}
	for _, w := range g.Wires {
		if a, b := number(w.A), number(w.B); a != b {
			out.Wires = append(out.Wires, Wire{a, b, w.C})
		}
	}
	return out
}

// joined tells whether wires join all vertices: one is left, if both ends of each wire become one.
func joined(g Net) bool {
	// There is an end, as the wire whose ends become one goes.
	for len(g.Wires) > 0 {
		g = short(g, g.Wires[0].A, g.Wires[0].B)
	}
	return g.N == 1
}
