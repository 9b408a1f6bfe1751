package ising

import (
	"math/bits"

	"demon/api"
)

const (
	mostHigh = 4
	mostLong = 12
)

// Strip of columns: by transfer from column to column.
func Strip(high, long int, ring bool) ([]int, error) {
	if !fits(high, long) {
		return nil, api.ErrBound
	}
	if ring && long < 3 {
		return nil, api.ErrShape
	}
	out := make([]int, countBonds(high, long, ring)+1)
	// A ring's last column must know the first one, so each first column is followed by itself.
	for first := range 1 << high {
		for last, counts := range transfer(first, high, long, len(out)) {
			closing := 0
			if ring {
				closing = between(last, first)
			}
			addShifted(out, counts, closing)
		}
	}
	return out, nil
}

func fits(high, long int) bool {
	return high >= 1 && high <= mostHigh && long >= 1 && long <= mostLong
}

func countBonds(high, long int, ring bool) int {
	steps := long - 1
	if ring {
		steps = long
	}
	return long*(high-1) + steps*high
}

// transfer from a first column on: for each last column, how many states there are by unlike bonds. A column is a number with a bit for each of its spins.
func transfer(first, high, long, size int) [][]int {
	now := noStates(high, size)
	now[first][within(first, high)] = 1
	for range long - 1 {
		next := noStates(high, size)
		for column, counts := range next {
			for before := range now {
				addShifted(counts, now[before], between(before, column)+within(column, high))
			}
		}
		now = next
	}
	return now
}

func noStates(high, size int) [][]int {
	out := make([][]int, 1<<high)
	for column := range out {
		out[column] = make([]int, size)
	}
	return out
}

// within a column: its unlike neighbours.
func within(column, high int) int {
	neighbours := 1<<(high-1) - 1
	return bits.OnesCount(uint((column ^ column>>1) & neighbours))
}

// between two columns: the places at which they are unlike.
func between(a, b int) int { return bits.OnesCount(uint(a ^ b)) }

// addShifted adds counts, each at the number that is greater by so much.
func addShifted(to, counts []int, by int) {
	for k := by; k < len(to); k++ {
		to[k] += counts[k-by]
	}
}
