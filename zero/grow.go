package zero

import "math/bits"

// set of vertices, or of places of weights: a bit for each one, so there may be 64 of them.
type set uint64

// upTo are the vertices below n.
func upTo(n int) set { return 1<<n - 1 }

func (s set) has(v int) bool { return s>>v&1 == 1 }

func (s set) size() int { return bits.OnesCount64(uint64(s)) }

// first vertex; there is one.
func (s set) first() int { return bits.TrailingZeros64(uint64(s)) }

func (s set) list() []int {
	out := make([]int, 0, s.size())
	for ; s != 0; s &= s - 1 {
		out = append(out, s.first())
	}
	return out
}

// near are for each vertex those that have an edge with it, and itself.
func near(g Graph) []set {
	out := make([]set, g.N)
	for v := range out {
		out[v] = 1 << v
	}
	for _, e := range g.Edges {
		out[e[0]] |= 1 << e[1]
		out[e[1]] |= 1 << e[0]
	}
	return out
}

// grow goes through the sets of vertices of which each two fit, in order. Each one is told to a function, with those that are above all of its vertices and fit them; if that answers false, the set is not grown on.
func grow(fit []set, tell func(grown, left set) bool) {
	var from func(grown, left set)
	from = func(grown, left set) {
		if !tell(grown, left) {
			return
		}
		for left != 0 {
			v := left.first()
			left &^= 1 << v
			from(grown|1<<v, left&fit[v])
		}
	}
	from(0, upTo(len(fit)))
}

// Alone: the greatest set without edges.
func Alone(g Graph) ([]int, error) {
	if err := Valid(g); err != nil {
		return nil, err
	}
	return alone(g), nil
}

// alone without the bound of what is told.
func alone(g Graph) []int {
	apart := near(g)
	for v := range apart {
		apart[v] = ^apart[v]
	}
	var greatest set
	// As sets come in order, only a greater one takes the place of the one that was found.
	grow(apart, func(grown, left set) bool {
		if grown.size() > greatest.size() {
			greatest = grown
		}
		return grown.size()+left.size() > greatest.size()
	})
	return greatest.list()
}
