package prefix

// P42 to P44.

import (
	"math"
	"math/rand"
	"slices"
	"testing"

	"demon/api"
	"demon/dist"
)

// fibonacci are the first n of those numbers.
func fibonacci(n int) []int {
	out := []int{1, 1}
	for len(out) < n {
		out = append(out, out[len(out)-1]+out[len(out)-2])
	}
	return out
}

// P42

func TestHuffman(t *testing.T) {
	for _, c := range []struct{ w, want []int }{
		{[]int{1, 1, 2, 4}, []int{3, 3, 2, 1}},
		{[]int{1, 4, 1}, []int{2, 1, 2}},
		{[]int{4, 1, 1, 4}, []int{2, 3, 3, 1}},
		{[]int{1, 0}, []int{1, 1}},
		{[]int{0, api.MaxWeight}, []int{1, 1}},
		{[]int{1, 1, 1}, []int{2, 2, 1}},
		{[]int{2, 1, 1}, []int{1, 2, 2}},
		{[]int{1, 1, 2}, []int{2, 2, 1}},
		// Of the same weight those of the list, which were made first, are taken ahead of a pair.
		{[]int{1, 1, 2, 2}, []int{2, 2, 2, 2}},
		{[]int{2, 1, 1, 2, 2}, []int{2, 3, 3, 2, 2}},
		{[]int{0, 0, 0, 1}, []int{3, 3, 2, 1}},
		{[]int{0, 0, 0, 0, 1}, []int{3, 3, 3, 3, 1}},
		{many(16, 256), many(16, 4)},
		{fibonacci(16), append([]int{15}, reversed(oneByOne(15))[1:]...)},
	} {
		if l, err := Huffman(c.w); err != nil || !slices.Equal(l, c.want) {
			t.Error(c, l, err)
		}
	}
}

func reversed(l []int) []int {
	out := slices.Clone(l)
	slices.Reverse(out)
	return out
}

func TestHuffmanOfMany(t *testing.T) {
	lists := someLists(rand.New(rand.NewSource(45)), 20)
	for n := 2; n <= 5; n++ {
		lists = append(lists, allLists(n, 0, 4)[1:]...)
	}
	for _, w := range lists {
		if l, err := Huffman(w); err != nil || !slices.Equal(l, wantHuffman(w)) {
			t.Error(w, l, err)
		}
	}
}

func TestTreesRefuse(t *testing.T) {
	for _, c := range []struct {
		w   []int
		err error
	}{
		{nil, api.ErrShape},
		{[]int{}, api.ErrShape},
		{[]int{3}, api.ErrShape},
		{[]int{0}, api.ErrShape},
		{[]int{0, 0}, api.ErrShape},
		{[]int{1, -1}, api.ErrShape},
		{[]int{api.MaxWeight}, api.ErrShape},
		{[]int{api.MaxWeight + 1}, api.ErrBound},
		{[]int{api.MaxWeight + 1, -1}, api.ErrShape},
		{[]int{api.MaxWeight, 1}, api.ErrBound},
		{[]int{math.MaxInt, math.MaxInt}, api.ErrBound},
		{many(17, 1), api.ErrBound},
		{many(17, -1), api.ErrBound},
		{many(16, 0), api.ErrShape},
	} {
		if bad := dist.Valid(c.w); bad != nil && bad != c.err {
			t.Error(c, bad)
		}
		if l, err := Huffman(c.w); err != c.err || len(l) != 0 {
			t.Error(c, l, err)
		}
		if l, err := Alphabetic(c.w); err != c.err || len(l) != 0 {
			t.Error(c, l, err)
		}
	}
}

// P43

func TestAlphabetic(t *testing.T) {
	for _, c := range []struct{ w, want []int }{
		{[]int{1, 1, 2, 4}, []int{3, 3, 2, 1}},
		{[]int{1, 4, 1}, []int{1, 2, 2}},
		{[]int{4, 1, 1, 4}, []int{1, 3, 3, 2}},
		{[]int{1, 0}, []int{1, 1}},
		{[]int{1, 1, 1}, []int{1, 2, 2}},
		{[]int{0, 1, 0}, []int{1, 2, 2}},
		{[]int{0, 0, 1}, []int{2, 2, 1}},
		{[]int{1, 0, 0, 0}, []int{1, 2, 3, 3}},
		{[]int{0, 0, 0, 1}, []int{2, 3, 3, 1}},
		{[]int{0, 0, 1, 0, 0}, []int{2, 2, 2, 3, 3}},
		{[]int{1, 3, 2}, []int{2, 2, 1}},
		{[]int{2, 3, 1}, []int{1, 2, 2}},
		{many(4, 2), many(4, 2)},
		{many(16, 256), many(16, 4)},
		{[]int{1, 2, 3, 4}, []int{3, 3, 2, 1}},
		{fibonacci(16), append([]int{15}, reversed(oneByOne(15))[1:]...)},
	} {
		if len(c.w) < 6 {
			if want := firstOfLeast(c.w, treeLengths(len(c.w))); !slices.Equal(c.want, want) {
				t.Error("not the first:", c, want)
			}
		}
		if l, err := Alphabetic(c.w); err != nil || !slices.Equal(l, c.want) {
			t.Error(c, l, err)
		}
	}
}

// Of all lists of lengths, also such as waste letters.
func TestAlphabeticOfAllLengths(t *testing.T) {
	for n := 2; n <= 5; n++ {
		lists := allLists(n, 1, n)
		lists = slices.DeleteFunc(lists, func(l []int) bool { return !inOrder(l) })
		for _, w := range allLists(n, 0, 4)[1:] {
			if l, err := Alphabetic(w); err != nil || !slices.Equal(l, firstOfLeast(w, lists)) {
				t.Error(w, l, err)
			}
		}
	}
}

// Of all trees.
func TestAlphabeticOfAllTrees(t *testing.T) {
	r := rand.New(rand.NewSource(46))
	for n := 6; n <= 9; n++ {
		lists := treeLengths(n)
		for _, most := range []int{1, 2, 5, api.MaxWeight / n} {
			for range 50 {
				w := someWeights(r, n, most)
				if l, err := Alphabetic(w); err != nil || !slices.Equal(l, firstOfLeast(w, lists)) {
					t.Error(w, l, err)
				}
			}
		}
	}
}

// Of greater ones the cost, in another way.
func TestAlphabeticCost(t *testing.T) {
	for _, w := range someLists(rand.New(rand.NewSource(47)), 20) {
		l, err := Alphabetic(w)
		if err != nil || !inOrder(l) || costOf(w, l) != garsiaWachs(w) {
			t.Error(w, l, err)
		}
	}
}

// P44

func TestSearch(t *testing.T) {
	for _, c := range []struct {
		keys, gaps []int
		cost, root int
	}{
		{[]int{1}, []int{0, 0}, 1, 0},
		{[]int{7}, []int{2, 3}, 12, 0},
		{[]int{0}, []int{0, 0}, 0, 0},
		{[]int{3, 3, 1, 1}, []int{2, 3, 1, 1, 1}, 32, 1},
		{[]int{0, 0}, []int{0, 0, 0}, 0, 0},
		{[]int{1, 9, 1}, []int{1, 1, 1, 1}, 21, 1},
		{[]int{1, 1}, []int{0, 0, 0}, 3, 0},
		{[]int{1, 2}, []int{0, 0, 0}, 4, 1},
		{[]int{2, 1}, []int{0, 0, 0}, 4, 0},
		{[]int{0, 0, 0}, []int{0, 0, 0, 5}, 5, 2},
		{[]int{0, 0, 0}, []int{5, 0, 0, 0}, 5, 0},
		{[]int{0, 0, 0}, []int{0, 5, 0, 0}, 10, 0},
		{[]int{0, 0, 0}, []int{1, 1, 1, 1}, 8, 1},
		{many(16, 0), many(17, 0), 0, 0},
		{many(16, 1), many(17, 0), 54, 7},
		{many(15, 1), many(16, 0), 49, 7},
		{many(16, api.MaxWeight), many(17, 0), 54 * api.MaxWeight, 7},
		{[]int{api.MaxWeight}, []int{api.MaxWeight, api.MaxWeight}, 3 * api.MaxWeight, 0},
	} {
		cost, root, err := Search(c.keys, c.gaps)
		if cost != c.cost || root != c.root || err != nil {
			t.Error(c, cost, root, err)
		}
	}
}

func TestSearchOfAllTrees(t *testing.T) {
	r := rand.New(rand.NewSource(48))
	for n := 1; n <= 8; n++ {
		trees := searchTrees(n)
		for _, most := range []int{1, 2, 9, api.MaxWeight} {
			for range 50 {
				keys, gaps := make([]int, n), make([]int, n+1)
				for i := range keys {
					keys[i] = r.Intn(most + 1)
				}
				for i := range gaps {
					gaps[i] = r.Intn(most+1) * r.Intn(2)
				}
				wantCost, wantRoot := wantSearch(keys, gaps, trees)
				if cost, root, err := Search(keys, gaps); cost != wantCost || root != wantRoot || err != nil {
					t.Error(keys, gaps, cost, root, err, wantCost, wantRoot)
				}
			}
		}
	}
}

func TestSearchRefuses(t *testing.T) {
	for _, c := range []struct {
		keys, gaps []int
		err        error
	}{
		{nil, nil, api.ErrShape},
		{nil, []int{0}, api.ErrShape},
		{[]int{}, []int{0, 0}, api.ErrShape},
		{[]int{1}, nil, api.ErrShape},
		{[]int{1}, []int{1}, api.ErrShape},
		{[]int{1}, []int{1, 1, 1}, api.ErrShape},
		{[]int{1}, many(17, 1), api.ErrShape},
		{many(16, 1), many(16, 1), api.ErrShape},
		{many(16, 1), many(18, 1), api.ErrShape},
		{[]int{-1}, []int{1, 1}, api.ErrShape},
		{[]int{1}, []int{1, -1}, api.ErrShape},
		{[]int{1}, []int{math.MinInt, 1}, api.ErrShape},
		{[]int{-1}, []int{1, api.MaxWeight + 1}, api.ErrShape},
		{[]int{api.MaxWeight + 1}, []int{1, -1}, api.ErrShape},
		{[]int{api.MaxWeight + 1}, []int{1}, api.ErrShape},
		{[]int{api.MaxWeight + 1}, []int{1, 1}, api.ErrBound},
		{[]int{1}, []int{1, api.MaxWeight + 1}, api.ErrBound},
		{[]int{1, math.MaxInt}, []int{math.MaxInt, 1, 1}, api.ErrBound},
		{many(17, 1), many(18, 1), api.ErrBound},
		{many(17, -1), nil, api.ErrBound},
	} {
		cost, root, err := Search(c.keys, c.gaps)
		if err != c.err || cost != 0 || root != 0 {
			t.Error(c, cost, root, err)
		}
	}
}
