package chain

import "demon/whole"

// reach tells of each state to which ones one can come from it, by a step at least.
func reach(c [][]int) [][]bool {
	out := make([][]bool, len(c))
	for i := range len(c) {
		out[i] = make([]bool, len(c))
		for k := range len(c) {
			out[i][k] = c[i][k] > 0
		}
	}
	for by := range len(c) {
		for i := range len(c) {
			for k := range len(c) {
				out[i][k] = out[i][k] || out[i][by] && out[by][k]
			}
		}
	}
	return out
}

// Classes of states.
func Classes(c [][]int) ([]int, error) {
	if err := Valid(c); err != nil {
		return nil, err
	}
	return leasts(reach(c)), nil
}

// leasts are the least states of all states' classes.
func leasts(to [][]bool) []int {
	out := make([]int, len(to))
	for i := range len(to) {
		out[i] = i
		for k := range i {
			if to[i][k] && to[k][i] {
				out[i] = k
				break
			}
		}
	}
	return out
}

// Closed classes.
func Closed(c [][]int) ([]int, error) {
	if err := Valid(c); err != nil {
		return nil, err
	}
	return closed(reach(c)), nil
}

func closed(to [][]bool) []int {
	var out []int
	for i, least := range leasts(to) {
		if i == least && stays(to, i) {
			out = append(out, i)
		}
	}
	return out
}

// stays tells whether one who leaves a state can always come back to it: its class cannot be left.
func stays(to [][]bool, i int) bool {
	for k := range len(to) {
		if to[i][k] && !to[k][i] {
			return false
		}
	}
	return true
}

// class of a state that stays: all states that can be come to from it.
func class(to [][]bool, i int) []int {
	var out []int
	for k := range len(to) {
		if to[i][k] {
			out = append(out, k)
		}
	}
	return out
}

// Period of a state.
func Period(c [][]int, i int) (int, error) {
	if err := checkState(c, i); err != nil {
		return 0, err
	}
	to, lengths := reach(c), lengths(c, i)
	out := 0
	for from := range len(c) {
		for k := range len(c) {
			if lengths[from] >= 0 && c[from][k] > 0 && to[k][i] {
				// Round a way back these differences add up to its length, and each is a difference of two such ways' lengths.
				out = whole.GCD(out, lengths[from]+1-lengths[k])
			}
		}
	}
	return out, nil
}

// lengths of some way from a state to each one; -1: there is none.
func lengths(c [][]int, i int) []int {
	out := make([]int, len(c))
	for k := range len(c) {
		out[k] = -1
	}
	out[i] = 0
	found := []int{i}
	for len(found) > 0 {
		from := found[0]
		found = found[1:]
		for k := range len(c) {
			if c[from][k] > 0 && out[k] < 0 {
				out[k] = out[from] + 1
				found = append(found, k)
			}
		}
	}
	return out
}
