package ising

import "demon/api"

// eachBond of a grid is told to a function, in order: the column and the place of the spin that it leads from, and whether it leads downward (or else to the next column).
func eachBond(high, long int, tell func(column, place int, down bool)) {
	for column := range long {
		for place := range high {
			if place < high-1 {
				tell(column, place, true)
			}
			if column < long-1 {
				tell(column, place, false)
			}
		}
	}
}

// Grid of spins.
func Grid(high, long int) (System, error) {
	if !isGrid(high, long) {
		return System{}, api.ErrBound
	}
	s := System{N: high * long}
	eachBond(high, long, func(column, place int, down bool) {
		spin := column*high + place
		next := spin + high
		if down {
			next = spin + 1
		}
		s.Bonds = append(s.Bonds, [2]int{spin, next})
	})
	return bounded(s)
}

// Faces of a grid.
func Faces(high, long int) (System, error) {
	if !isGrid(high, long) {
		return System{}, api.ErrBound
	}
	outside := (high - 1) * (long - 1)
	// A square is named by the spin at its upper corner in its first column.
	square := func(column, place int) int {
		if column < 0 || column >= long-1 || place < 0 || place >= high-1 {
			return outside
		}
		return column*(high-1) + place
	}
	s := System{N: outside + 1}
	eachBond(high, long, func(column, place int, down bool) {
		ahead := square(column, place-1)
		if down {
			ahead = square(column-1, place)
		}
		s.Bonds = append(s.Bonds, [2]int{ahead, square(column, place)})
	})
	return bounded(s)
}

// isGrid tells whether there are squares, and not too many of them for a strip.
func isGrid(high, long int) bool { return fits(high, long) && high > 1 && long > 1 }

// bounded is the system, unless it is too large for one.
func bounded(s System) (System, error) {
	if Valid(s) != nil {
		return System{}, api.ErrBound
	}
	return s, nil
}
