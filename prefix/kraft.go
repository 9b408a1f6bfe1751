package prefix

import (
	"cmp"
	"slices"
	"strconv"
	"strings"

	"demon/api"
	"demon/whole"
)

// longest: the greatest length of which words are made.
const longest = 40

func checkLengths(l []int) error {
	if len(l) > api.MaxSize {
		return api.ErrBound
	}
	if len(l) == 0 || slices.Min(l) < 1 || slices.Max(l) > longest {
		return api.ErrShape
	}
	return nil
}

// share: how many words of the greatest length a word of this length begins.
func share(length int) int { return 1 << (longest - length) }

func shares(l []int) int {
	sum := 0
	for _, x := range l {
		sum += share(x)
	}
	return sum
}

// Kraft sum.
func Kraft(l []int) (api.Frac, error) {
	if err := checkLengths(l); err != nil {
		return api.Frac{}, err
	}
	return whole.Lowest(shares(l), share(0)), nil
}

// Canon: words of lengths.
func Canon(l []int) ([]string, error) {
	if err := checkLengths(l); err != nil {
		return nil, err
	}
	if shares(l) > share(0) {
		return nil, api.ErrNone
	}
	out := make([]string, len(l))
	taken := 0 // as lengths rise, what the words ahead begin has no holes: just the first ones, in order
	for _, i := range rising(l) {
		out[i] = digits(taken/share(l[i]), l[i])
		taken += share(l[i])
	}
	return out, nil
}

// rising are the places of numbers, by the numbers, then by the places.
func rising(l []int) []int {
	out := make([]int, len(l))
	for i := range out {
		out[i] = i
	}
	slices.SortStableFunc(out, func(i, k int) int { return cmp.Compare(l[i], l[k]) })
	return out
}

// digits of a number to the base 2, so many, with zeros ahead.
func digits(n, length int) string {
	text := strconv.FormatInt(int64(n), 2)
	return strings.Repeat("0", length-len(text)) + text
}
