package sample

import (
	"math"
	"slices"
	"testing"

	"demon/api"
)

// P142

// walk is the rules of n states in a row: a step down, and one up; at the ends one stays.
func walk(n int) Rules {
	down, up := make([]int, n), make([]int, n)
	for i := range n {
		down[i], up[i] = max(0, i-1), min(n-1, i+1)
	}
	return Rules{down, up}
}

// stays is the rule of n states by which each one stays.
func stays(n int) []int {
	out := make([]int, n)
	for i := range out {
		out[i] = i
	}
	return out
}

func rightRules() []Rules {
	out := []Rules{
		{{0}}, {{0, 0}}, {{0, 1}}, {{1, 1}}, {{0, 0, 1}, {1, 2, 2}}, {{2, 2, 2}},
		many(16, []int{0}), many(16, stays(16)), {stays(16)}, {many(16, 15)}, {many(16, 0), many(16, 15)},
		{append(many(15, 0), 15)}, {append([]int{0}, many(15, 15)...)},
	}
	for n := 1; n <= 16; n++ {
		out = append(out, walk(n))
	}
	return out
}

type wrongRules struct {
	r   Rules
	err error
}

func allWrongRules() []wrongRules {
	most, least := math.MaxInt, math.MinInt
	out := []wrongRules{
		{make(Rules, 17), api.ErrBound}, {make(Rules, 100000), api.ErrBound}, {many(17, []int{0}), api.ErrBound}, {many(17, []int{1, 0}), api.ErrBound},
		{Rules{stays(17)}, api.ErrBound}, {Rules{make([]int, 100000)}, api.ErrBound},
		// A bound comes ahead of each shape, wherever it is.
		{Rules{{}, {1}, {1, 0}, make([]int, 17)}, api.ErrBound}, {Rules{make([]int, 17), {}}, api.ErrBound}, {Rules{{0}, many(17, -1)}, api.ErrBound}, {many(17, []int{-1}), api.ErrBound},
		{nil, api.ErrShape}, {Rules{}, api.ErrShape}, {Rules{{}}, api.ErrShape}, {Rules{nil}, api.ErrShape}, {make(Rules, 16), api.ErrShape},
		{Rules{{}, {0}}, api.ErrShape}, {Rules{{0}, {}}, api.ErrShape}, {Rules{{0}, {0, 1}}, api.ErrShape}, {Rules{{0, 1}, {0}}, api.ErrShape}, {Rules{{0, 1}, {0, 1}, {0, 1, 2}}, api.ErrShape},
		{Rules{{1}}, api.ErrShape}, {Rules{{-1}}, api.ErrShape}, {Rules{{most}}, api.ErrShape}, {Rules{{least}}, api.ErrShape},
		{Rules{{0, 2}}, api.ErrShape}, {Rules{{-1, 0}}, api.ErrShape}, {Rules{{least, most}}, api.ErrShape}, {Rules{{0, 1, 1}, {0, 1, 3}}, api.ErrShape}, {Rules{{0, 1, 1}, {-1, 1, 2}}, api.ErrShape},
		// A shape comes ahead of each order, wherever it is.
		{Rules{{1, 0}, {0, 2}}, api.ErrShape}, {Rules{{1, 0}, {0}}, api.ErrShape}, {Rules{{1, 0}, {}}, api.ErrShape}, {Rules{{2, 0}}, api.ErrShape}, {Rules{{0, -1}}, api.ErrShape}, {Rules{{0, 3, 1}}, api.ErrShape},
		{Rules{{1, 0}}, api.ErrOrder}, {Rules{{0, 1}, {1, 0}}, api.ErrOrder}, {Rules{{1, 0, 2}}, api.ErrOrder}, {Rules{{0, 2, 1}}, api.ErrOrder}, {Rules{{1, 1, 0}}, api.ErrOrder}, {Rules{{2, 1, 0}, {0, 1, 2}}, api.ErrOrder},
		{append(many(15, stays(16)), append(stays(15), 13)), api.ErrOrder},
	}
	for at := range 15 {
		swapped := stays(16)
		swapped[at], swapped[at+1] = at+1, at
		out = append(out, wrongRules{Rules{stays(16), swapped}, api.ErrOrder})
	}
	return out
}

func TestValid(t *testing.T) {
	for _, r := range rightRules() {
		if err := Valid(r); err != nil {
			t.Error(r, err)
		}
	}
	for _, x := range allWrongRules() {
		if err := Valid(x.r); err != x.err {
			t.Error(x, err)
		}
	}
}

// All rules of few states, also with numbers that are none, alone, and beside one that is right.
func TestAllRules(t *testing.T) {
	for n := 1; n <= 4; n++ {
		eachRow(n, n+2, func(rule []int) {
			for i := range rule {
				rule[i]--
			}
			var want error
			if slices.Min(rule) < 0 || slices.Max(rule) >= n {
				want = api.ErrShape
			} else if !isRising(rule) {
				want = api.ErrOrder
			}
			for _, r := range []Rules{{rule}, {stays(n), rule}, {rule, stays(n)}} {
				if err := Valid(r); err != want {
					t.Error(r, err, want)
				}
			}
		})
	}
}
