package sample

import (
	"math/bits"
	"slices"
	"strings"

	"demon/api"
	"demon/dist"
	"demon/whole"
)

// Draw by bits.
func Draw(w []int, s string) (which, used int, err error) {
	if err := drawError(w, s); err != nil {
		return 0, 0, err
	}
	tree := leavesOf(w)
	// There is an end, as a round that comes to `again` has read something: less than half of all is again's, so it has no leaf ahead of the first bit.
	for {
		leaf, read, ok := readLeaf(tree, s[used:])
		if !ok {
			return 0, 0, api.ErrNone
		}
		used += read
		if leaf < len(w) {
			return leaf, used, nil
		}
	}
}

// drawError is what is wrong with weights and bits, also with bits that are not needed.
func drawError(w []int, s string) error {
	if err := dist.Valid(w); err != nil {
		return err
	}
	if len(s) > api.MaxText {
		return api.ErrBound
	}
	if strings.Trim(s, "01") != "" {
		return api.ErrText
	}
	return nil
}

// leavesOf the tree of weights: for each depth the outcomes that have a leaf there, in their order. `again` is the outcome behind those of the weights.
func leavesOf(w []int) [][]int {
	sum := whole.Total(w)
	deep := bits.Len(uint(sum - 1))
	weights := append(slices.Clone(w), 1<<deep-sum)
	tree := make([][]int, deep+1)
	for depth := range tree {
		for i, n := range weights {
			if n>>(deep-depth)&1 == 1 {
				tree[depth] = append(tree[depth], i)
			}
		}
	}
	return tree
}

// readLeaf is the leaf that bits lead to, and how many of them; false: they end ahead of one.
func readLeaf(tree [][]int, s string) (leaf, read int, ok bool) {
	v := 0
	for depth, leaves := range tree {
		if v < len(leaves) {
			return leaves[v], depth, true
		}
		if depth == len(s) {
			break
		}
		v = 2*(v-len(leaves)) + int(s[depth]-'0')
	}
	return 0, 0, false
}

// Flips in the mean: of as many rounds as the weights and `again` have together, each leaf has its share, and as many as the weights alone have come to an outcome: so it is what all of these rounds read, over those that come to one.
func Flips(w []int) (api.Frac, error) {
	if err := dist.Valid(w); err != nil {
		return api.Frac{}, err
	}
	tree := leavesOf(w)
	read := 0
	for depth, leaves := range tree {
		rounds := len(leaves) << (len(tree) - 1 - depth)
		read += depth * rounds
	}
	return whole.Lowest(read, whole.Total(w)), nil
}
