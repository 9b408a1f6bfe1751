package chain

import (
	"demon/api"
	"demon/dist"
	"demon/fold"
	"demon/logs"
	"demon/whole"
)

// Stationary chances.
func Stationary(c [][]int) ([]api.Frac, error) {
	if err := Valid(c); err != nil {
		return nil, err
	}
	to := reach(c)
	ends := closed(to)
	if len(ends) > 1 {
		return nil, api.ErrNone
	}
	nums, sum := fold.Of(c, class(to, ends[0])).Visits(), whole.NatOf(0)
	for i, often := range nums {
		nums[i] = often.Times(uint64(whole.Total(c[i])))
		sum = sum.Plus(nums[i])
	}
	return whole.ToldAll(nums, sum)
}

// Reversible chain?
func Reversible(c [][]int) (bool, error) {
	chances, err := Stationary(c)
	if err != nil {
		return false, err
	}
	for i := range len(c) {
		for k := range i {
			if !balanced(c, chances, i, k) {
				return false, nil
			}
		}
	}
	return true, nil
}

// balanced tells whether a step from i to k is as likely as one from k to i.
func balanced(c [][]int, chances []api.Frac, i, k int) bool {
	return likely(c, chances, i, k).Cmp(likely(c, chances, k, i)) == 0
}

// likely is how likely a step is, times the denominators of it and of the one back: a whole number, which may need more than a word.
func likely(c [][]int, chances []api.Frac, from, to int) whole.Nat {
	own := whole.NatOf(uint64(chances[from].Num)).Times(uint64(c[from][to]))
	return own.Times(uint64(chances[to].Den)).Times(uint64(whole.Total(c[to])))
}

// Hitting a state: mean steps.
func Hitting(c [][]int, to int) ([]api.Frac, error) {
	if err := checkState(c, to); err != nil {
		return nil, err
	}
	ways := reach(c)
	states := []int{to}
	for i := range len(c) {
		if i == to {
			continue
		}
		if !ways[i][to] {
			return nil, api.ErrNone
		}
		states = append(states, i)
	}
	return whole.ToldAll(fold.Of(c, states).Steps())
}

// Return to a state: mean steps.
func Return(c [][]int, to int) (api.Frac, error) {
	if err := checkState(c, to); err != nil {
		return api.Frac{}, err
	}
	// All that can be come to from the state can be come to not by way of it, after one was there last.
	ways := reach(c)
	if !stays(ways, to) {
		return api.Frac{}, api.ErrNone
	}
	states := []int{to}
	for _, k := range class(ways, to) {
		if k != to {
			states = append(states, k)
		}
	}
	return whole.Told(fold.Of(c, states).Return())
}

// Rate of entropy.
func Rate(c [][]int) (api.Log, error) {
	chances, err := Stationary(c)
	if err != nil {
		return api.Log{}, err
	}
	for _, f := range chances {
		if f.Num > api.MaxPart || f.Den > api.MaxPart {
			return api.Log{}, api.ErrBound
		}
	}
	sum := api.Log{Den: 1}
	for i := range len(c) {
		sum, err = addScaled(sum, c[i], chances[i])
		if err != nil {
			return api.Log{}, err
		}
	}
	return sum, nil
}

// addScaled is a sum and a chance times the entropy of a row.
func addScaled(sum api.Log, row []int, chance api.Frac) (api.Log, error) {
	h, err := dist.Entropy(row)
	if err != nil {
		return api.Log{}, err
	}
	part, err := logs.Scale(h, chance)
	if err != nil {
		return api.Log{}, err
	}
	return logs.Add(sum, part)
}
