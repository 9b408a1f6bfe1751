package prefix

import (
	"slices"

	"demon/api"
	"demon/whole"
)

func checkSearch(keys, gaps []int) error {
	if len(keys) > api.MaxSize {
		return api.ErrBound
	}
	if len(keys) == 0 || len(gaps) != len(keys)+1 {
		return api.ErrShape
	}
	if slices.Min(keys) < 0 || slices.Min(gaps) < 0 {
		return api.ErrShape
	}
	if slices.Max(keys) > api.MaxWeight || slices.Max(gaps) > api.MaxWeight {
		return api.ErrBound
	}
	return nil
}

// Search tree of least cost.
func Search(keys, gaps []int) (cost int, root int, err error) {
	if err := checkSearch(keys, gaps); err != nil {
		return 0, 0, err
	}
	var costs [api.MaxSize + 1][api.MaxSize + 1]int // of the keys from the first number on, ahead of the second one; of no keys 0
	for size := 1; size <= len(keys); size++ {
		for from := 0; from+size <= len(keys); from++ {
			to := from + size
			below := func(r int) int { return costs[from][r] + costs[r+1][to] }
			root = from
			for r := from + 1; r < to; r++ {
				if below(r) < below(root) {
					root = r
				}
			}
			// Each key and each gap has the root on its way.
			costs[from][to] = below(root) + whole.Total(keys[from:to]) + whole.Total(gaps[from:to+1])
		}
	}
	return costs[0][len(keys)], root, nil
}
