package prefix

// P45

import (
	"math/big"
	"math/rand"
	"slices"
	"strings"
	"testing"

	"demon/api"
)

// McMillan, of words up to the bound, that are drawn so that many codes are unique: words that end with the only 1 of theirs, or begin with it, or a code's words one behind the other.
func TestMcMillan(t *testing.T) {
	r := rand.New(rand.NewSource(49))
	for range 400 {
		n := 1 + r.Intn(api.MaxSize)
		var words []string
		for range n {
			words = append(words, "1"+zeros(r.Intn(api.MaxWord)))
		}
		if r.Intn(2) == 0 {
			words[r.Intn(n)] = someCode(r, 1, 8)[0]
		}
		checkCode(t, words)
		base := someCode(r, 3, 4)
		var rows []string
		for range 1 + r.Intn(6) {
			rows = append(rows, strings.Join([]string{base[r.Intn(3)], base[r.Intn(3)], base[r.Intn(3)]}, ""))
		}
		checkCode(t, rows)
	}
}

// No prefix code is better: of all lists of lengths whose Kraft sum is at most 1.
func TestHuffmanIsLeast(t *testing.T) {
	for n := 2; n <= 5; n++ {
		lists := allLists(n, 1, n)
		lists = slices.DeleteFunc(lists, func(l []int) bool { return above1(wantKraft(l)) })
		for _, w := range allLists(n, 0, 4)[1:] {
			l, err := Huffman(w)
			if err != nil || costOf(w, l) != costOf(w, firstOfLeast(w, lists)) {
				t.Error(w, l, err)
			}
		}
	}
}

// Nor is a code that is drawn.
func TestHuffmanIsLeastOfMany(t *testing.T) {
	r := rand.New(rand.NewSource(50))
	for _, w := range someLists(r, 20) {
		l, err := Huffman(w)
		if err != nil {
			t.Fatal(w, err)
		}
		for range 20 {
			other := make([]int, len(w))
			for i := range other {
				other[i] = min(len(w), max(1, l[i]+r.Intn(3)-1))
			}
			words, err := Canon(other)
			if err == nil && costOf(w, lengthsOf(words)) < costOf(w, l) {
				t.Error(w, l, other)
			}
		}
		if a, err := Alphabetic(w); err != nil || costOf(w, a) < costOf(w, l) {
			t.Error(w, l, a, err)
		}
	}
}

// cmpEntropy holds a cost against the entropy times the sum of weights, exactly: 2 to the power of the cost, times each weight to the power of itself, against the sum to the power of itself.
func cmpEntropy(w []int, cost int) int {
	power := func(x int) *big.Int { return new(big.Int).Exp(big.NewInt(int64(x)), big.NewInt(int64(x)), nil) }
	left, right := big.NewInt(1), power(sumOf(w))
	for _, x := range w {
		left.Mul(left, power(x))
	}
	if cost < 0 {
		return left.Cmp(right.Lsh(right, uint(-cost)))
	}
	return left.Lsh(left, uint(cost)).Cmp(right)
}

func TestEntropyBounds(t *testing.T) {
	lists := someLists(rand.New(rand.NewSource(51)), 6)
	for n := 2; n <= 5; n++ {
		lists = append(lists, allLists(n, 0, 4)[1:]...)
	}
	lists = append(lists, []int{1, 4095}, []int{4095, 1}, []int{2048, 1, 2047}, many(16, 256), fibonacci(16), with(many(16, 1), 7, 4081))
	for _, w := range lists {
		l, err := Huffman(w)
		a, bad := Alphabetic(w)
		if err != nil || bad != nil {
			t.Fatal(w, err, bad)
		}
		best, rise, all := costOf(w, l), costOf(w, a), sumOf(w)
		if cmpEntropy(w, best) < 0 || best > rise {
			t.Error("below the entropy:", w, l, a)
		}
		if slices.Min(w) == 0 {
			continue
		}
		if cmpEntropy(w, best-all) >= 0 {
			t.Error("Huffman is far from the entropy:", w, l)
		}
		if cmpEntropy(w, rise-2*all) >= 0 {
			t.Error("Alphabetic is far from the entropy:", w, a)
		}
	}
	if cmpEntropy([]int{1, 1, 2, 4}, 14) != 0 || cmpEntropy([]int{1, 1, 2, 4}, 13) != -1 || cmpEntropy([]int{1, 2}, 3) != 1 || cmpEntropy([]int{1, 2}, -1) != -1 {
		t.Error("cmpEntropy")
	}
}
