package channel

import (
	"demon/api"
	"demon/whole"
)

// Behind each other.
func Behind(a, b [][]int) ([][]int, error) {
	if err := Valid(a); err != nil {
		return nil, err
	}
	if err := Valid(b); err != nil {
		return nil, err
	}
	if len(a[0]) != len(b) {
		return nil, api.ErrShape
	}
	rows, out := oneSum(b), make([][]int, len(a))
	for i, w := range a {
		chances, err := mixed(w, rows)
		if err != nil {
			return nil, err
		}
		sum, fits := leastSum(chances, mostWeight)
		if !fits {
			return nil, api.ErrBound
		}
		out[i] = ofSum(chances, sum)
	}
	return out, nil
}

// oneSum is each row times the sums of all others: so all rows have one sum. Much of it may cancel later on, though it is too long for a word.
func oneSum(c [][]int) [][]whole.Nat {
	out := make([][]whole.Nat, len(c))
	for i, row := range c {
		times := whole.NatOf(1)
		for k, other := range c {
			if k != i {
				times = times.Times(uint64(whole.Total(other)))
			}
		}
		for _, x := range row {
			out[i] = append(out[i], times.Times(uint64(x)))
		}
	}
	return out
}

// mixed are the chances of a symbol, if its row is drawn by weights; all rows have one sum. ErrBound: one is too long to be told.
func mixed(w []int, rows [][]whole.Nat) ([]fraction, error) {
	nums, all := make([]whole.Nat, len(rows[0])), whole.NatOf(0)
	for i, row := range rows {
		for k, n := range row {
			part := n.Times(uint64(w[i]))
			nums[k], all = nums[k].Plus(part), all.Plus(part)
		}
	}
	out := make([]fraction, len(nums))
	for k, n := range nums {
		f, err := whole.Told(n, all)
		if err != nil {
			return nil, err
		}
		out[k] = fraction(f)
	}
	return out, nil
}
