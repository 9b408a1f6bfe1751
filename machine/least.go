package machine

import (
	"iter"
	"slices"
	"strings"

	"demon/api"
)

const (
	maxText  = 8           // bytes of a text whose least program is asked for
	maxLeast = 2 * maxText // that many its least program has at most: it can be written byte by byte
)

// Least program of a text.
func Least(x string) (string, error) {
	if len(x) > maxText {
		return "", api.ErrBound
	}
	if strings.Trim(x, "01") != "" {
		return "", api.ErrText
	}
	least := ""
	for p, s := range leastPrograms() {
		if s == x {
			least = p
			break
		}
	}
	return least, nil
}

// Many texts have a Least of at most so many bytes.
func Many(n int) (int, error) {
	if n < 0 || n > maxLeast {
		return 0, api.ErrBound
	}
	many := 0
	for p, s := range leastPrograms() {
		if len(p) > n {
			break
		}
		if len(s) <= maxText {
			many++
		}
	}
	return many, nil
}

// written is a program and what it writes.
type written struct{ program, text string }

// leastPrograms are the programs of at most maxLeast bytes that are the least ones of what they write, with that: the shorter ones first, those of one length in order of bytes.
func leastPrograms() iter.Seq2[string, string] {
	return func(yield func(p, s string) bool) {
		seen := map[string]int{} // how many programs of each text were met
		var levels [][]written
		for n := range maxLeast + 1 {
			level := fresh(longer(levels, n), seen)
			for _, w := range level {
				if !yield(w.program, w.text) {
					return
				}
			}
			levels = append(levels, level)
		}
	}
}

// longer programs, of n bytes: shorter ones with one part more. Only least programs are made longer: with the least one of the same text in its place the beginning of a program would be shorter or earlier, and so would the program.
func longer(levels [][]written, n int) []written {
	if n == 0 {
		return []written{{}}
	}
	var out []written
	for _, x := range parts() {
		if k := n - len(x.word); k >= 0 {
			for _, w := range levels[k] {
				out = append(out, written{w.program + x.word, x.do(w.text)})
			}
		}
	}
	return out
}

// fresh ones: those that are the first to write their text. One that writes too much on its way is refused, and so would be all that begin with it.
func fresh(l []written, seen map[string]int) []written {
	slices.SortFunc(l, func(a, b written) int { return strings.Compare(a.program, b.program) })
	var out []written
	for _, w := range l {
		if len(w.text) > api.MaxOutput {
			continue
		}
		seen[w.text]++
		if seen[w.text] == 1 {
			out = append(out, w)
		}
	}
	return out
}
