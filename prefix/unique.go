package prefix

import "strings"

// Unique: can each text be read in one way?
func Unique(words []string) (bool, error) {
	if err := Valid(words); err != nil {
		return false, err
	}
	return unique(words), nil
}

// unique lays two rows of words side by side, in every way: what is left over is where one row is ahead of the other. If nothing is, both are one text. What is left over ends a word: so there is only so much of it.
func unique(words []string) bool {
	left := map[string]int{} // how often each was left over
	var open []string        // those from which nothing was gone on yet
	put := func(long, short string) {
		rest, begins := strings.CutPrefix(long, short)
		if !begins {
			return
		}
		left[rest]++
		if left[rest] == 1 {
			open = append(open, rest)
		}
	}
	for i, a := range words {
		for k, b := range words {
			if i != k {
				put(a, b)
			}
		}
	}
	for len(open) > 0 && left[""] == 0 {
		rest := open[0]
		open = open[1:]
		for _, w := range words {
			put(rest, w)
			put(w, rest)
		}
	}
	return left[""] == 0
}
