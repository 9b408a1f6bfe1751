package channel

import (
	"demon/api"
	"demon/dist"
	"demon/logs"
)

// Above all that can be told.
func Above(c [][]int, q []int) (api.Log, int, error) {
	if err := Valid(c); err != nil {
		return api.Log{}, 0, err
	}
	// What is wrong with q, or unlike lengths, the first divergence tells. All are made ahead of comparing, as an error of the last one comes ahead of a sign that is not told.
	apart := make([]api.Log, len(c))
	for i, row := range c {
		d, err := dist.Divergence(row, q)
		if err != nil {
			return api.Log{}, 0, err
		}
		apart[i] = d
	}
	at, err := greatest(apart)
	if err != nil {
		return api.Log{}, 0, err
	}
	return apart[at], at, nil
}

// greatest logarithm's place, the first one; each is compared with the greatest of those ahead of it.
func greatest(l []api.Log) (int, error) {
	at := 0
	for i := 1; i < len(l); i++ {
		d, err := less(l[i], l[at])
		if err != nil {
			return 0, err
		}
		sign, err := logs.Sign(d)
		if err != nil {
			return 0, err
		}
		if sign > 0 {
			at = i
		}
	}
	return at, nil
}
