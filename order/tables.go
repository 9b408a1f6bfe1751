package order

import (
	"slices"

	"demon/api"
	"demon/whole"
)

// mostRows of a table.
const mostRows = 8

// Parts: permutations of a table.
func Parts(m [][]int) ([][]int, []int, error) {
	if err := tableError(m); err != nil {
		return nil, nil, err
	}
	left := make([][]int, len(m))
	for i, row := range m {
		left[i] = slices.Clone(row)
	}
	var parts [][]int
	var often []int
	// There is an end, as each part leaves one more 0.
	for sum := whole.Total(m[0]); sum > 0; {
		part := firstPart(left)
		least := takeOut(left, part)
		parts, often = append(parts, part), append(often, least)
		sum -= least
	}
	return parts, often, nil
}

// tableError is what is wrong with a table. Sums are made only of numbers that are right, so they fit.
func tableError(m [][]int) error {
	if len(m) > mostRows {
		return api.ErrBound
	}
	if len(m) == 0 {
		return api.ErrShape
	}
	for _, row := range m {
		if len(row) != len(m) || slices.ContainsFunc(row, isNoNumber) {
			return api.ErrShape
		}
	}
	sum := whole.Total(m[0])
	for i, row := range m {
		if whole.Total(row) != sum || columnTotal(m, i) != sum {
			return api.ErrShape
		}
	}
	return nil
}

func columnTotal(m [][]int, column int) int {
	sum := 0
	for _, row := range m {
		sum += row[column]
	}
	return sum
}

// firstPart is the first permutation, in order, that has only numbers above 0. There is one while the sum of each row and column is above 0, as what stands in some rows needs as many columns to stand in.
func firstPart(m [][]int) []int {
	part := make([]int, len(m))
	var taken [mostRows]bool
	var from func(row int) bool
	from = func(row int) bool {
		if row == len(m) {
			return true
		}
		for column, n := range m[row] {
			if n == 0 || taken[column] {
				continue
			}
			part[row], taken[column] = column, true
			if from(row + 1) {
				return true
			}
			taken[column] = false
		}
		return false
	}
	from(0)
	return part
}

// takeOut a permutation as often as its least number, which is told.
func takeOut(m [][]int, part []int) int {
	least := api.MaxWeight
	for row, column := range part {
		least = min(least, m[row][column])
	}
	for row, column := range part {
		m[row][column] -= least
	}
	return least
}

// Spread weights by a table. Nothing that comes is near 2^40, so that bound is not looked at: a row has at most 2^3 numbers, each of them, as each weight, at most 2^12: so 2^27 is the most.
func Spread(m [][]int, w []int) ([]int, error) {
	if err := tableError(m); err != nil {
		return nil, err
	}
	if len(w) != len(m) || slices.ContainsFunc(w, isNoNumber) {
		return nil, api.ErrShape
	}
	out := make([]int, len(m))
	for i, row := range m {
		for k, n := range row {
			out[i] += n * w[k]
		}
	}
	return out, nil
}
