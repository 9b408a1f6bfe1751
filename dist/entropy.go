package dist

import (
	"demon/api"
	"demon/sums"
	"demon/whole"
)

// putter puts the logarithm of a number, so many times, into a sum.
type putter func(number, times int)

// sumOver is the sum of all that parts puts, over a denominator.
func sumOver(den int, parts func(put putter)) (api.Log, error) {
	s := sums.Over(den)
	parts(s.Put)
	return s.Told()
}

// putEntropy puts the entropy of weights as often as their sum is: so those of several rows go into one sum over the weight of all, and a row of nothing but 0 is nothing.
func putEntropy(w []int, put putter) {
	all := whole.Total(w)
	for _, x := range w {
		put(all, x)
		put(x, -x)
	}
}

// Entropy of weights.
func Entropy(w []int) (api.Log, error) {
	if err := Valid(w); err != nil {
		return api.Log{}, err
	}
	return sumOver(whole.Total(w), func(put putter) { putEntropy(w, put) })
}

// Divergence of p from q.
func Divergence(p, q []int) (api.Log, error) {
	if err := ValidPair(p, q); err != nil {
		return api.Log{}, err
	}
	for i, x := range p {
		if x > 0 && q[i] == 0 {
			return api.Log{}, api.ErrZero
		}
	}
	allP, allQ := whole.Total(p), whole.Total(q)
	return sumOver(allP, func(put putter) {
		for i, x := range p {
			put(x, x)
			put(allP, -x)
			put(q[i], -x)
			put(allQ, x)
		}
	})
}

// Joint entropy.
func Joint(t [][]int) (api.Log, error) {
	if err := Table(t); err != nil {
		return api.Log{}, err
	}
	all := cells(t)
	return sumOver(whole.Total(all), func(put putter) { putEntropy(all, put) })
}

// Given the first thing: the entropy of the second one.
func Given(t [][]int) (api.Log, error) {
	if err := Table(t); err != nil {
		return api.Log{}, err
	}
	return sumOver(whole.Total(cells(t)), func(put putter) {
		for _, row := range t {
			putEntropy(row, put)
		}
	})
}

// Mutual information.
func Mutual(t [][]int) (api.Log, error) {
	if err := Table(t); err != nil {
		return api.Log{}, err
	}
	rows, columns := rowSums(t), columnSums(t)
	all := whole.Total(rows)
	return sumOver(all, func(put putter) {
		for i, row := range t {
			for k, x := range row {
				put(x, x)
				put(all, x)
				put(rows[i], -x)
				put(columns[k], -x)
			}
		}
	})
}
