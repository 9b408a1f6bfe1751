package ising

import (
	"math"
	"slices"
	"testing"

	"demon/api"
)

// P122

func TestStrip(t *testing.T) {
	for _, x := range []struct {
		high, long int
		ring       bool
		want       []int
	}{
		{1, 1, false, []int{2}},
		{1, 2, false, []int{2, 2}},
		{2, 1, false, []int{2, 2}},
		{1, 3, false, []int{2, 4, 2}},
		{3, 1, false, []int{2, 4, 2}},
		{4, 1, false, []int{2, 6, 6, 2}},
		{1, 3, true, []int{2, 0, 6, 0}},
		{1, 4, true, []int{2, 0, 12, 0, 2}},
		{2, 2, false, []int{2, 0, 12, 0, 2}},
		{1, 12, true, []int{2, 0, 132, 0, 990, 0, 1848, 0, 990, 0, 132, 0, 2}},
		// Two rings of three, spin over spin. Both without unlike bonds: 2 + 2; one of them: 12 + 12, by one or two unlike spins; none: 6, 12, 12, 6, by none to three of them.
		{2, 3, true, []int{2, 0, 0, 2 + 12, 12 + 6, 12, 12, 6, 0, 0}},
	} {
		if l, err := Strip(x.high, x.long, x.ring); !slices.Equal(l, x.want) || err != nil {
			t.Error(x, l, err)
		}
	}
}

func TestStripRefuses(t *testing.T) {
	most, least := math.MaxInt, math.MinInt
	for _, ring := range []bool{false, true} {
		for _, x := range [][2]int{{0, 3}, {5, 3}, {-1, 3}, {1, 0}, {1, 13}, {1, -1}, {4, 13}, {5, 12}, {0, 0}, {5, 13}, {5, 1}, {0, 1}, {0, 2}, {most, 3}, {least, 3}, {3, most}, {3, least}, {most, most}, {least, least}} {
			if l, err := Strip(x[0], x[1], ring); len(l) != 0 || err != api.ErrBound {
				t.Error(x, ring, l, err)
			}
		}
	}
	for high := 1; high <= 4; high++ {
		for long := 1; long <= 2; long++ {
			if l, err := Strip(high, long, true); len(l) != 0 || err != api.ErrShape {
				t.Error(high, long, l, err)
			}
		}
	}
}

// Every strip, also those that are too large for States, against a second way; those of at most 16 spins also state by state.
func TestAllStrips(t *testing.T) {
	for high := 1; high <= 4; high++ {
		for long := 1; long <= 12; long++ {
			for _, ring := range []bool{false, true} {
				if !ring || long > 2 {
					checkStrip(t, high, long, ring)
				}
			}
		}
	}
}

func checkStrip(t *testing.T, high, long int, ring bool) {
	t.Helper()
	l, err := Strip(high, long, ring)
	if !slices.Equal(l, wantStrip(high, long, ring)) || err != nil {
		t.Error(high, long, ring, l, err)
	}
	s := wantSystem(high, long, ring)
	if s.N <= 16 && !slices.Equal(l, wantStates(s)) {
		t.Error(high, long, ring, l)
	}
	if want, err := States(s); err == nil && !slices.Equal(l, want) {
		t.Error(high, long, ring, l, want)
	}
	sum := 0
	for _, n := range l {
		sum += n
	}
	if sum != 1<<s.N || len(l) != len(s.Bonds)+1 {
		t.Error(high, long, ring, l)
	}
}
