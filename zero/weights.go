package zero

import (
	"slices"

	"demon/api"
	"demon/whole"
)

const (
	mostSets = 64   // that have weights
	mostPart = 1000 // numbers of a weight, in size
)

// Packs: weights of vertices.
func Packs(g Graph, w []api.Frac) (api.Frac, bool, error) {
	if err := Valid(g); err != nil {
		return api.Frac{}, false, err
	}
	if len(w) != g.N || slices.ContainsFunc(w, isNoWeight) {
		return api.Frac{}, false, api.ErrShape
	}
	sum, err := whole.Sum(w)
	if err != nil {
		return api.Frac{}, false, err
	}
	s := sharesOf(w)
	return sum, s.below == 0 && s.pack(g), nil
}

// Covers: weights of sets.
func Covers(g Graph, sets [][]int, w []api.Frac) (api.Frac, bool, error) {
	if err := Valid(g); err != nil {
		return api.Frac{}, false, err
	}
	if len(sets) > mostSets || len(w) != len(sets) || slices.ContainsFunc(w, isNoWeight) || !areOf(g.N, sets) {
		return api.Frac{}, false, api.ErrShape
	}
	sum, err := whole.Sum(w)
	if err != nil {
		return api.Frac{}, false, err
	}
	s := sharesOf(w)
	return sum, s.below == 0 && allJoined(g, sets) && s.cover(g.N, sets), nil
}

func isNoWeight(f api.Frac) bool { return !whole.IsLowest(f, mostPart) }

// areOf tells whether all numbers of sets are vertices.
func areOf(n int, sets [][]int) bool {
	for _, l := range sets {
		if slices.ContainsFunc(l, func(v int) bool { return v < 0 || v >= n }) {
			return false
		}
	}
	return true
}

// allJoined tells whether each set rises, and each two of its vertices have an edge.
func allJoined(g Graph, sets [][]int) bool {
	n := near(g)
	for _, l := range sets {
		next := upTo(g.N)
		for _, v := range l {
			if !next.has(v) {
				return false
			}
			next &= n[v] &^ upTo(v+1)
		}
	}
	return true
}

// shares are weights with one denominator, which may be long: their numerators without signs, and that denominator, which is 1.
type shares struct {
	parts []whole.Nat
	one   whole.Nat
	below set // the places of those below 0
}

func sharesOf(w []api.Frac) shares {
	s := shares{parts: make([]whole.Nat, len(w)), one: whole.NatOf(1)}
	for i, f := range w {
		for k := range i {
			s.parts[k] = s.parts[k].Times(uint64(f.Den))
		}
		s.parts[i] = s.one.Times(uint64(whole.Size(f.Num)))
		s.one = s.one.Times(uint64(f.Den))
		if f.Num < 0 {
			s.below |= 1 << i
		}
	}
	return s
}

// together are the shares at some places, without signs.
func (s shares) together(places set) whole.Nat {
	sum := whole.NatOf(0)
	for ; places != 0; places &= places - 1 {
		sum = sum.Plus(s.parts[places.first()])
	}
	return sum
}

// pack tells whether no set of vertices of which each two have an edge has more than 1. None is below 0: so a set has the most when nothing is left that could be put to it, and where all that is left is not enough, nothing is grown.
func (s shares) pack(g Graph) bool {
	above := false
	grow(near(g), func(grown, left set) bool {
		if above || s.together(grown|left).Cmp(s.one) <= 0 {
			return false
		}
		above = left == 0
		return true
	})
	return !above
}

// cover tells whether each vertex is in sets that have 1 at least. None is below 0.
func (s shares) cover(n int, sets [][]int) bool {
	for v := range n {
		var holding set
		for i, l := range sets {
			if slices.Contains(l, v) {
				holding |= 1 << i
			}
		}
		if s.together(holding).Cmp(s.one) < 0 {
			return false
		}
	}
	return true
}
