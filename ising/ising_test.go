package ising

import (
	"math"
	"math/rand"
	"slices"
	"testing"

	"demon/api"
)

// P120

type systemCase struct {
	s   System
	err error
}

func wrongSystems() []systemCase {
	most, least := math.MaxInt, math.MinInt
	return []systemCase{
		{System{N: -1}, api.ErrBound},
		{System{N: 15}, api.ErrBound},
		{System{N: most}, api.ErrBound},
		{System{N: least}, api.ErrBound},
		{System{N: 2, Bonds: many(31, [2]int{0, 1})}, api.ErrBound},
		{System{N: 14, Bonds: many(100000, [2]int{0, 1})}, api.ErrBound},
		// Bounds come ahead of shapes.
		{System{N: 15, Bonds: [][2]int{{1, 1}}}, api.ErrBound},
		{System{N: -1, Bonds: [][2]int{{0, -1}}}, api.ErrBound},
		{System{N: 2, Bonds: make([][2]int, 31)}, api.ErrBound},
		{System{N: 0, Bonds: many(31, [2]int{0, 1})}, api.ErrBound},
		{System{N: 0, Bonds: [][2]int{{0, 0}}}, api.ErrShape},
		{System{N: 0, Bonds: [][2]int{{0, 1}}}, api.ErrShape},
		{System{N: 1, Bonds: [][2]int{{0, 0}}}, api.ErrShape},
		{System{N: 1, Bonds: [][2]int{{0, 1}}}, api.ErrShape},
		{System{N: 1, Bonds: [][2]int{{1, 0}}}, api.ErrShape},
		{System{N: 2, Bonds: [][2]int{{1, 1}}}, api.ErrShape},
		{System{N: 2, Bonds: [][2]int{{0, 2}}}, api.ErrShape},
		{System{N: 2, Bonds: [][2]int{{2, 0}}}, api.ErrShape},
		{System{N: 2, Bonds: [][2]int{{0, -1}}}, api.ErrShape},
		{System{N: 2, Bonds: [][2]int{{-1, 0}}}, api.ErrShape},
		{System{N: 2, Bonds: [][2]int{{least, 1}}}, api.ErrShape},
		{System{N: 2, Bonds: [][2]int{{0, most}}}, api.ErrShape},
		{System{N: 2, Bonds: [][2]int{{most, most}}}, api.ErrShape},
		{System{N: 14, Bonds: [][2]int{{13, 14}}}, api.ErrShape},
		{System{N: 14, Bonds: [][2]int{{14, 13}}}, api.ErrShape},
		// Only the last one is wrong.
		{System{N: 14, Bonds: append(many(29, [2]int{0, 1}), [2]int{3, 3})}, api.ErrShape},
		{System{N: 14, Bonds: append(many(29, [2]int{0, 1}), [2]int{3, 64})}, api.ErrShape},
	}
}

func rightSystems() []System {
	out := []System{
		{}, {Bonds: [][2]int{}}, {N: 1}, {N: 14},
		{N: 2, Bonds: [][2]int{{0, 1}}}, {N: 2, Bonds: [][2]int{{1, 0}}},
		{N: 2, Bonds: [][2]int{{0, 1}, {0, 1}, {1, 0}}},
		{N: 2, Bonds: many(30, [2]int{1, 0})},
		{N: 14, Bonds: many(30, [2]int{0, 13})},
		{N: 14, Bonds: slices.Concat(ring(14).Bonds, path(14).Bonds, [][2]int{{0, 7}, {3, 10}, {12, 1}})},
	}
	for n := range 15 {
		out = append(out, path(n))
	}
	for n := 3; n < 15; n++ {
		out = append(out, ring(n))
	}
	return out
}

func TestValid(t *testing.T) {
	for _, x := range wrongSystems() {
		if err := Valid(x.s); err != x.err {
			t.Error(x, err)
		}
	}
	for _, s := range rightSystems() {
		if err := Valid(s); err != nil {
			t.Error(s, err)
		}
	}
}

// Of all pairs of numbers around so many spins just those of two spins are bonds.
func TestSmallValid(t *testing.T) {
	for n := range 15 {
		right := 0
		for i := -2; i < 17; i++ {
			for k := -2; k < 17; k++ {
				if Valid(System{N: n, Bonds: [][2]int{{i, k}}}) == nil {
					right++
					if !slices.Contains(allPairs(n), [2]int{i, k}) {
						t.Error(n, i, k)
					}
				}
			}
		}
		if right != n*(n-1) {
			t.Error(n, right)
		}
	}
}

// P121

func TestCounts(t *testing.T) {
	for _, x := range []struct {
		s            System
		states, even []int
	}{
		{System{}, []int{1}, []int{1}},
		{System{N: 1}, []int{2}, []int{1}},
		{System{N: 14}, []int{16384}, []int{1}},
		{path(2), []int{2, 2}, []int{1, 0}},
		{path(3), []int{2, 4, 2}, []int{1, 0, 0}},
		{ring(3), []int{2, 0, 6, 0}, []int{1, 0, 0, 1}},
		{ring(4), []int{2, 0, 12, 0, 2}, []int{1, 0, 0, 0, 1}},
		// Two spins with several bonds: all of them are unlike, or none; each two are an even set.
		{System{N: 2, Bonds: [][2]int{{0, 1}, {1, 0}}}, []int{2, 0, 2}, []int{1, 0, 1}},
		{System{N: 2, Bonds: many(4, [2]int{0, 1})}, []int{2, 0, 0, 0, 2}, []int{1, 0, 6, 0, 1}},
		// A spin that has no bond doubles the states alone.
		{System{N: 3, Bonds: [][2]int{{2, 0}}}, []int{4, 4}, []int{1, 0}},
		// Two rings of three that share a spin.
		{System{N: 5, Bonds: [][2]int{{0, 1}, {1, 2}, {2, 0}, {2, 3}, {3, 4}, {4, 2}}}, []int{2, 0, 12, 0, 18, 0, 0}, []int{1, 0, 0, 2, 0, 0, 1}},
		// Each two of four.
		{System{N: 4, Bonds: [][2]int{{0, 1}, {0, 2}, {0, 3}, {1, 2}, {1, 3}, {2, 3}}}, []int{2, 0, 0, 8, 6, 0, 0}, []int{1, 0, 0, 4, 3, 0, 0}},
	} {
		if l, err := States(x.s); !slices.Equal(l, x.states) || err != nil {
			t.Error(x, l, err)
		}
		if l, err := Even(x.s); !slices.Equal(l, x.even) || err != nil {
			t.Error(x, l, err)
		}
	}
}

// As many as there may be: 30 bonds between two spins, of which the even sets are those of an even number.
func TestManyBonds(t *testing.T) {
	s := System{N: 2, Bonds: many(30, [2]int{0, 1})}
	choose := 1
	l, err := Even(s)
	if len(l) != 31 || err != nil {
		t.Fatal(l, err)
	}
	for k, n := range l {
		if k%2 == 0 && n != choose || k%2 == 1 && n != 0 {
			t.Error(k, n, choose)
		}
		choose = choose * (30 - k) / (k + 1)
	}
	if l, err := States(s); !slices.Equal(l, append(append([]int{2}, make([]int, 29)...), 2)) || err != nil {
		t.Error(l, err)
	}
}

func TestCountsRefuse(t *testing.T) {
	for _, x := range wrongSystems() {
		if l, err := States(x.s); len(l) != 0 || err != x.err {
			t.Error(x, l, err)
		}
		if l, err := Even(x.s); len(l) != 0 || err != x.err {
			t.Error(x, l, err)
		}
	}
}

func checkCounts(t *testing.T, s System, even []int) {
	t.Helper()
	if l, err := States(s); !slices.Equal(l, wantStates(s)) || err != nil {
		t.Error(s, l, err)
	}
	if l, err := Even(s); !slices.Equal(l, even) || err != nil {
		t.Error(s, l, even, err)
	}
}

func TestAllSmallCounts(t *testing.T) {
	seen := 0
	for n := range 5 {
		for bonds := range 4 {
			eachSystem(n, bonds, func(s System) { checkCounts(t, s, wantEven(s)); seen++ })
		}
	}
	eachSystem(3, 5, func(s System) { checkCounts(t, s, wantEven(s)); seen++ })
	if seen < 9000 {
		t.Error(seen)
	}
}

func TestSomeCounts(t *testing.T) {
	r := rand.New(rand.NewSource(121))
	for range 300 {
		s := someSystem(r, 2+r.Intn(9), r.Intn(13))
		checkCounts(t, s, wantEven(s))
		if !slices.Equal(wantEven(s), wantEvenByLoops(s)) {
			t.Error(s, wantEven(s), wantEvenByLoops(s))
		}
	}
	for range 20 {
		s := someSystem(r, 13+r.Intn(2), 24+r.Intn(7))
		checkCounts(t, s, wantEvenByLoops(s))
	}
	for _, s := range rightSystems() {
		if len(loops(s)) < 20 {
			checkCounts(t, s, wantEvenByLoops(s))
		}
	}
}
