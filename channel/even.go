package channel

import (
	"slices"

	"demon/api"
	"demon/dist"
	"demon/logs"
	"demon/whole"
)

// Even channel?
func Even(c [][]int) (bool, error) {
	if err := Valid(c); err != nil {
		return false, err
	}
	rows := make([][]fraction, len(c))
	for i, row := range c {
		rows[i] = parts(row, 1, whole.Total(row))
	}
	return sameRows(rows) && sameColumns(rows), nil
}

// sameRows tells whether all rows are the same but for their order.
func sameRows(rows [][]fraction) bool {
	first := sorted(rows[0])
	for _, row := range rows {
		if !slices.Equal(sorted(row), first) {
			return false
		}
	}
	return true
}

func sorted(l []fraction) []fraction {
	out := slices.Clone(l)
	slices.SortFunc(out, fraction.compare)
	return out
}

// sameColumns tells whether all columns have the same sum. It is asked only of rows that are the same but for their order: then one number up to mostWeight is a denominator of all, and no sum grows long.
func sameColumns(rows [][]fraction) bool {
	sums := slices.Clone(rows[0])
	for _, row := range rows[1:] {
		for k, f := range row {
			sums[k] = sums[k].plus(f)
		}
	}
	for _, f := range sums {
		if f != sums[0] {
			return false
		}
	}
	return true
}

// Capacity of an even channel.
func Capacity(c [][]int) (api.Log, error) {
	even, err := Even(c)
	if err != nil {
		return api.Log{}, err
	}
	if !even {
		return api.Log{}, api.ErrKind
	}
	// Of an even channel no column is nothing but 0: so all symbols may come out.
	most, err := logs.Of(api.Frac{Num: len(c[0]), Den: 1})
	if err != nil {
		return api.Log{}, err
	}
	row, err := dist.Entropy(c[0])
	if err != nil {
		return api.Log{}, err
	}
	return less(most, row)
}

// less is a less b.
func less(a, b api.Log) (api.Log, error) {
	minus, err := logs.Scale(b, api.Frac{Num: -1, Den: 1})
	if err != nil {
		return api.Log{}, err
	}
	return logs.Add(a, minus)
}
