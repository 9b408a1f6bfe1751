package renyi

import (
	"demon/api"
	"demon/dist"
	"demon/whole"
)

// mostRows of a family.
const mostRows = 64

// Family of functions.
type Family struct {
	M int
	L [][]int
}

// Valid family?
func Valid(f Family) error {
	if len(f.L) > mostRows || f.M < 1 || f.M > api.MaxSize {
		return api.ErrBound
	}
	for _, row := range f.L {
		if len(row) > api.MaxSize {
			return api.ErrBound
		}
	}
	if len(f.L) == 0 || len(f.L[0]) == 0 {
		return api.ErrShape
	}
	for _, row := range f.L {
		if len(row) != len(f.L[0]) || !allBelow(row, f.M) {
			return api.ErrShape
		}
	}
	return nil
}

// allBelow tells whether all values are from 0 on and below m.
func allBelow(row []int, m int) bool {
	for _, value := range row {
		if value < 0 || value >= m {
			return false
		}
	}
	return true
}

// Universal family?
func Universal(f Family) (bool, error) {
	if err := Valid(f); err != nil {
		return false, err
	}
	for x := range len(f.L[0]) {
		for y := range x {
			if together(f, x, y)*f.M > len(f.L) {
				return false, nil
			}
		}
	}
	return true, nil
}

// together: by how many functions two things go to one value.
func together(f Family, x, y int) int {
	often := 0
	for _, row := range f.L {
		if row[x] == row[y] {
			often++
		}
	}
	return often
}

// Linear family.
func Linear(p, most int) (Family, error) {
	if p != 2 && p != 3 && p != 5 && p != 7 {
		return Family{}, api.ErrKind
	}
	if most < 1 || most > min(p*p, api.MaxSize) {
		return Family{}, api.ErrBound
	}
	out := Family{M: p}
	for a := range p {
		for b := range p {
			out.L = append(out.L, linearRow(p, a, b, most))
		}
	}
	return out, nil
}

// linearRow: a thing has two digits to the base p, one that a counts and one that b does.
func linearRow(p, a, b, most int) []int {
	row := make([]int, most)
	for x := range most {
		row[x] = (a*(x/p) + b*(x%p)) % p
	}
	return row
}

// Far from even.
func Far(f Family, w []int) (api.Frac, error) {
	if err := Valid(f); err != nil {
		return api.Frac{}, err
	}
	if err := dist.Valid(w); err != nil {
		return api.Frac{}, err
	}
	if len(w) != len(f.L[0]) {
		return api.Frac{}, api.ErrShape
	}
	all, apart := whole.Total(w), 0
	for _, row := range f.L {
		for _, x := range loads(row, w, f.M) {
			// A value that nothing goes to is one of them: it has less than its share.
			apart += whole.Size(x*f.M - all)
		}
	}
	return whole.Lowest(apart, 2*len(f.L)*f.M*all), nil
}

// loads of values: the weights of all that goes to each.
func loads(row, w []int, m int) []int {
	out := make([]int, m)
	for x, value := range row {
		out[value] += w[x]
	}
	return out
}
