package prefix

import (
	"cmp"
	"slices"

	"demon/api"
	"demon/dist"
	"demon/whole"
)

// checkWeights of a tree's leaves.
func checkWeights(w []int) error {
	if err := dist.Valid(w); err != nil {
		return err
	}
	if len(w) == 1 {
		return api.ErrShape
	}
	return nil
}

// thing that became one: its weight, and which weights are part of it.
type thing struct {
	weight int
	parts  []int
}

// Huffman lengths.
func Huffman(w []int) ([]int, error) {
	if err := checkWeights(w); err != nil {
		return nil, err
	}
	lengths := make([]int, len(w))
	var things []thing // in the order in which they were made
	for i, x := range w {
		things = append(things, thing{x, []int{i}})
	}
	for len(things) > 1 {
		var a, b thing
		a, things = takeLeast(things)
		b, things = takeLeast(things)
		both := thing{a.weight + b.weight, slices.Concat(a.parts, b.parts)}
		for _, i := range both.parts {
			lengths[i]++
		}
		things = append(things, both)
	}
	return lengths, nil
}

// takeLeast is the first thing of least weight, and the others, whose list is changed for it.
func takeLeast(things []thing) (thing, []thing) {
	at := 0
	for i, x := range things {
		if x.weight < things[at].weight {
			at = i
		}
	}
	least := things[at]
	return least, slices.Delete(things, at, at+1)
}

// tree over neighbouring weights: the lengths of the ways to them, and the sum of weight times length.
type tree struct {
	cost    int
	lengths []int
}

// betterTree costs less, or as much and its lengths are first in order.
func betterTree(a, b tree) bool {
	return cmp.Or(cmp.Compare(a.cost, b.cost), slices.Compare(a.lengths, b.lengths)) < 0
}

// under one new root, which costs each weight a letter more.
func under(left, right tree, weight int) tree {
	lengths := slices.Concat(left.lengths, right.lengths)
	for i := range lengths {
		lengths[i]++
	}
	return tree{left.cost + right.cost + weight, lengths}
}

// Alphabetic lengths. Words of which some letter has no choice are never the first in order: without that letter they cost no more and are shorter. So only trees are looked at in which each root has two sides; and each side of a best one is a best one.
func Alphabetic(w []int) ([]int, error) {
	if err := checkWeights(w); err != nil {
		return nil, err
	}
	var best [api.MaxSize][api.MaxSize + 1]tree // of the weights from the first number on, ahead of the second one
	for i := range w {
		best[i][i+1] = tree{0, []int{0}}
	}
	for size := 2; size <= len(w); size++ {
		for from := 0; from+size <= len(w); from++ {
			to := from + size
			weight := whole.Total(w[from:to])
			least := under(best[from][from+1], best[from+1][to], weight)
			for mid := from + 2; mid < to; mid++ {
				if t := under(best[from][mid], best[mid][to], weight); betterTree(t, least) {
					least = t
				}
			}
			best[from][to] = least
		}
	}
	return best[0][len(w)].lengths, nil
}
