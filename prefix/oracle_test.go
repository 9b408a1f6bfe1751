package prefix

// What the tests hold the package against: the document's words, gone through one by one.

import (
	"cmp"
	"math/big"
	"math/rand"
	"slices"
	"strings"
	"testing"

	"demon/api"
)

func many(n, x int) []int { return slices.Repeat([]int{x}, n) }

// with is w with x at the place i.
func with(w []int, i, x int) []int {
	out := slices.Clone(w)
	out[i] = x
	return out
}

func zeros(n int) string { return strings.Repeat("0", n) }

func sumOf(l []int) int {
	n := 0
	for _, x := range l {
		n += x
	}
	return n
}

// costOf is the sum of weight times length.
func costOf(w, lengths []int) int {
	n := 0
	for i, x := range w {
		n += x * lengths[i]
	}
	return n
}

func lengthsOf(words []string) []int {
	var out []int
	for _, w := range words {
		out = append(out, len(w))
	}
	return out
}

// wantKraft is the sum itself, of lengths without a bound.
func wantKraft(lengths []int) *big.Rat {
	out := new(big.Rat)
	for _, x := range lengths {
		out.Add(out, new(big.Rat).SetFrac(big.NewInt(1), new(big.Int).Lsh(big.NewInt(1), uint(x))))
	}
	return out
}

func above1(f *big.Rat) bool { return f.Cmp(big.NewRat(1, 1)) > 0 }

// allWords of a length, in order.
func allWords(length int) []string {
	out := []string{""}
	for range length {
		var longer []string
		for _, w := range out {
			longer = append(longer, w+"0", w+"1")
		}
		out = longer
	}
	return out
}

// wordsUpTo a length, but the empty one.
func wordsUpTo(length int) []string {
	var out []string
	for n := range length {
		out = append(out, allWords(n+1)...)
	}
	return out
}

// allLists of so many numbers from least to most, in order.
func allLists(n, least, most int) [][]int {
	out := [][]int{nil}
	for range n {
		var longer [][]int
		for _, l := range out {
			for x := least; x <= most; x++ {
				longer = append(longer, append(l[:len(l):len(l)], x))
			}
		}
		out = longer
	}
	return out
}

func begun(word string, by []string) bool {
	return slices.ContainsFunc(by, func(w string) bool { return strings.HasPrefix(word, w) })
}

// wantCanon looks at every word of each length; false: for some length none is left.
func wantCanon(lengths []int) ([]string, bool) {
	out := make([]string, len(lengths))
	var ahead []string
	for length := range slices.Max(lengths) + 1 {
		for i, x := range lengths {
			if x != length {
				continue
			}
			all := allWords(length)
			at := slices.IndexFunc(all, func(w string) bool { return !begun(w, ahead) })
			if at < 0 {
				return nil, false
			}
			out[i] = all[at]
			ahead = append(ahead, all[at])
		}
	}
	return out, true
}

// pair of words that are read side by side, and how much of each is read.
type pair struct{ a, b, atA, atB int }

// wantUnique reads a text, letter by letter, by two rows of words that begin with different ones: it is not unique if both come to an end at once.
func wantUnique(words []string) bool {
	seen := map[pair]bool{}
	var open []pair
	put := func(p pair) {
		if !seen[p] {
			seen[p] = true
			open = append(open, p)
		}
	}
	for a := range words {
		for b := range words {
			if a != b {
				put(pair{a, b, 0, 0})
			}
		}
	}
	for len(open) > 0 {
		p := open[0]
		open = open[1:]
		if words[p.a][p.atA] != words[p.b][p.atB] {
			continue
		}
		p.atA++
		p.atB++
		endA, endB := p.atA == len(words[p.a]), p.atB == len(words[p.b])
		switch {
		case endA && endB:
			return false
		case endA:
			for next := range words {
				put(pair{next, p.b, 0, p.atB})
			}
		case endB:
			for next := range words {
				put(pair{p.a, next, p.atA, 0})
			}
		default:
			put(p)
		}
	}
	return true
}

// twice: is some text of at most so many words one of other words, too?
func twice(words []string, most int) bool {
	texts := map[string]bool{}
	rows := []string{""}
	for range most {
		var longer []string
		for _, row := range rows {
			for _, w := range words {
				longer = append(longer, row+w)
			}
		}
		for _, text := range longer {
			if texts[text] {
				return true
			}
			texts[text] = true
		}
		rows = longer
	}
	return false
}

// node of HUFFMAN's tree.
type node struct {
	weight, made int
	parts        []*node
}

// wantHuffman sorts all things by weight and by when they were made, each time anew.
func wantHuffman(w []int) []int {
	var leaves, things []*node
	for i, x := range w {
		leaves = append(leaves, &node{weight: x, made: i})
	}
	things = slices.Clone(leaves)
	for made := len(w); len(things) > 1; made++ {
		slices.SortFunc(things, func(a, b *node) int {
			return cmp.Or(cmp.Compare(a.weight, b.weight), cmp.Compare(a.made, b.made))
		})
		both := &node{things[0].weight + things[1].weight, made, things[:2:2]}
		things = append([]*node{both}, things[2:]...)
	}
	depths := map[*node]int{}
	var down func(n *node, depth int)
	down = func(n *node, depth int) {
		depths[n] = depth
		for _, part := range n.parts {
			down(part, depth+1)
		}
	}
	down(things[0], 0)
	var out []int
	for _, n := range leaves {
		out = append(out, depths[n])
	}
	return out
}

// inOrder: are there words of these lengths that rise, none of which begins another one? Each is taken as low as it can be.
func inOrder(lengths []int) bool {
	free := new(big.Rat) // the words ahead, as numbers behind a point, are all below it
	for _, x := range lengths {
		scale := new(big.Rat).SetInt(new(big.Int).Lsh(big.NewInt(1), uint(x)))
		at := new(big.Rat).Mul(free, scale)
		up := new(big.Int).Add(at.Num(), at.Denom())
		up.Sub(up, big.NewInt(1)).Div(up, at.Denom())
		free.SetInt(up.Add(up, big.NewInt(1))).Quo(free, scale)
	}
	return !above1(free)
}

// firstOfLeast is the first list of least cost; lists stand in order.
func firstOfLeast(w []int, lists [][]int) []int {
	var out []int
	for _, l := range lists {
		if out == nil || costOf(w, l) < costOf(w, out) {
			out = l
		}
	}
	return out
}

// treeLengths are the lengths of all trees of n leaves in which each root has two sides, in order.
func treeLengths(n int) [][]int {
	if n == 1 {
		return [][]int{{0}}
	}
	var out [][]int
	for left := 1; left < n; left++ {
		for _, a := range treeLengths(left) {
			for _, b := range treeLengths(n - left) {
				l := slices.Concat(a, b)
				for i := range l {
					l[i]++
				}
				out = append(out, l)
			}
		}
	}
	slices.SortFunc(out, slices.Compare)
	return out
}

// garsiaWachs is the least cost of Alphabetic's words, in the way of GARSIA and WACHS.
func garsiaWachs(w []int) int {
	l, cost := slices.Clone(w), 0
	for len(l) > 1 {
		// The first neighbours but one that rise (behind the last stands a number without end): those two ahead of the greater one become one.
		at := 1
		for at+1 < len(l) && l[at-1] > l[at+1] {
			at++
		}
		both := l[at-1] + l[at]
		cost += both
		l = slices.Delete(l, at-1, at+1)
		to := at - 1
		for to > 0 && l[to-1] < both {
			to--
		}
		l = slices.Insert(l, to, both)
	}
	return cost
}

// searchTree: its root, and of each key and each gap the number of keys on the way to it.
type searchTree struct {
	root       int
	keys, gaps []int
}

func deeper(l []int) []int {
	out := slices.Clone(l)
	for i := range out {
		out[i]++
	}
	return out
}

// searchTrees are all of n keys.
func searchTrees(n int) []searchTree {
	if n == 0 {
		return []searchTree{{-1, nil, []int{0}}}
	}
	var out []searchTree
	for root := range n {
		for _, a := range searchTrees(root) {
			for _, b := range searchTrees(n - 1 - root) {
				keys := slices.Concat(deeper(a.keys), []int{1}, deeper(b.keys))
				gaps := slices.Concat(deeper(a.gaps), deeper(b.gaps))
				out = append(out, searchTree{root, keys, gaps})
			}
		}
	}
	return out
}

// wantSearch looks at every tree; they stand by rising roots.
func wantSearch(keys, gaps []int, trees []searchTree) (cost, root int) {
	root = -1
	for _, t := range trees {
		if c := costOf(keys, t.keys) + costOf(gaps, t.gaps); root < 0 || c < cost {
			cost, root = c, t.root
		}
	}
	return cost, root
}

// someWeights are n of them, up to most, not all 0; some are 0.
func someWeights(r *rand.Rand, n, most int) []int {
	w := make([]int, n)
	for i := range w {
		if r.Intn(5) > 0 {
			w[i] = r.Intn(most + 1)
		}
	}
	w[r.Intn(n)] = 1 + r.Intn(most)
	return w
}

// someLists are weights of all lengths from 2 on; the sums go up to the bound.
func someLists(r *rand.Rand, times int) [][]int {
	var out [][]int
	for n := 2; n <= api.MaxSize; n++ {
		for _, most := range []int{1, 3, 30, api.MaxWeight / n} {
			for range times {
				out = append(out, someWeights(r, n, most))
			}
		}
	}
	return out
}

// someCode of words up to a length.
func someCode(r *rand.Rand, n, most int) []string {
	var out []string
	for range n {
		w := make([]byte, 1+r.Intn(most))
		for i := range w {
			w[i] = byte('0' + r.Intn(2))
		}
		out = append(out, string(w))
	}
	return out
}

// The ways that the tests go themselves.
func TestOracles(t *testing.T) {
	for _, c := range []struct {
		lengths []int
		want    bool
	}{{[]int{1, 1}, true}, {[]int{1, 2, 2}, true}, {[]int{2, 1, 2}, false}, {[]int{2, 2, 1}, true}, {[]int{1, 1, 1}, false}, {[]int{3, 1, 3}, false}, {[]int{5, 5}, true}, {[]int{2, 3, 2, 2}, true}, {[]int{2, 3, 1, 2}, false}, {[]int{3, 2, 2, 2, 3}, false}} {
		if got := inOrder(c.lengths); got != c.want {
			t.Error(c, got)
		}
	}
	for n, want := range []int{0, 1, 1, 2, 5, 14, 42} {
		if n > 0 && len(treeLengths(n)) != want {
			t.Error(n, treeLengths(n))
		}
	}
	if n := len(searchTrees(5)); n != 42 {
		t.Error(n)
	}
}
