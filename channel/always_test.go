package channel

// P85

import (
	"math/rand"
	"testing"

	"demon/api"
	"demon/dist"
	"demon/logs"
)

// checkAtMost: a is at most b.
func checkAtMost(t *testing.T, a, b api.Log, what ...any) {
	t.Helper()
	if sign(t, difference(t, b, a)) < 0 {
		t.Error(a, "is above", b, what)
	}
}

// checkBetween: Through is at most Above; it tells whether both were told.
func checkBetween(t *testing.T, p []int, c [][]int, q []int) bool {
	t.Helper()
	low, err := Through(p, c)
	if err != nil {
		return false
	}
	high, _, err := Above(c, q)
	if err != nil {
		return false
	}
	checkAtMost(t, low, high, p, c, q)
	return true
}

func TestSmallBetween(t *testing.T) {
	for _, size := range []struct{ rows, columns, most int }{{1, 2, 3}, {2, 1, 3}, {2, 2, 3}, {2, 3, 1}, {3, 2, 1}} {
		in, out := allWeights(size.rows, 2), allWeights(size.columns, 2)
		eachChannel(size.rows, size.columns, size.most, func(c [][]int) {
			for _, p := range in {
				for _, q := range out {
					checkBetween(t, p, c, q)
				}
			}
		})
	}
}

func TestSomeBetween(t *testing.T) {
	r := rand.New(rand.NewSource(851))
	told := 0
	for range 4000 {
		rows, columns := someSize(r), someSize(r)
		c, p, q := someChannel(r, rows, columns), someWeights(r, rows, 16), someWeights(r, columns, 16)
		for k := range q {
			q[k]++
		}
		if checkBetween(t, p, c, q) {
			told++
		}
		// What comes out of p itself is nearest to what goes through.
		if table, err := Table(p, c); err == nil {
			own, err := dist.Columns(table)
			if err != nil {
				t.Fatal(err)
			}
			checkBetween(t, p, c, own)
		}
	}
	if told < 1000 {
		t.Error(told)
	}
}

// Of an even channel Capacity is Through with equal weights, and Above from equal weights, so it lies between.
func checkCapacity(t *testing.T, c [][]int) {
	t.Helper()
	a, err := Capacity(c)
	if err != nil {
		t.Error(c, err)
	}
	for _, each := range []int{1, 3, 256} {
		b, err := Through(many(len(c), each), c)
		if err != nil || !sameLog(a, b) {
			t.Error(c, a, b, err)
		}
	}
	b, at, err := Above(c, many(len(c[0]), 5))
	if err != nil || at != 0 || !sameLog(a, b) {
		t.Error(c, a, b, at, err)
	}
}

func TestCapacityIsThrough(t *testing.T) {
	even := 0
	for _, size := range []struct{ rows, columns, most int }{{1, 1, 9}, {1, 3, 6}, {3, 1, 4}, {2, 2, 8}, {2, 4, 2}, {4, 2, 2}, {3, 3, 2}} {
		eachChannel(size.rows, size.columns, size.most, func(c [][]int) {
			if is, _ := Even(c); is {
				even++
				checkCapacity(t, c)
			}
		})
	}
	if even < 200 {
		t.Error(even)
	}
	r := rand.New(rand.NewSource(852))
	for range 1000 {
		checkCapacity(t, someEven(r))
	}
}

// checkProcessing: what goes through two tells no more than what goes through the first; it tells whether both were told.
func checkProcessing(t *testing.T, p []int, a, b [][]int) bool {
	t.Helper()
	both, err := Behind(a, b)
	if err != nil {
		return false
	}
	first, err := Through(p, a)
	if err != nil {
		return false
	}
	second, err := Through(p, both)
	if err != nil {
		return false
	}
	checkAtMost(t, second, first, p, a, b)
	return true
}

func TestDataProcessing(t *testing.T) {
	lists := allWeights(2, 2)
	eachChannel(2, 2, 2, func(a [][]int) {
		eachChannel(2, 2, 2, func(b [][]int) {
			for _, p := range lists {
				checkProcessing(t, p, a, b)
			}
		})
	})
	r := rand.New(rand.NewSource(853))
	told := 0
	for range 6000 {
		rows, between := someSize(r), someSize(r)
		a, b := someChannel(r, rows, between), someChannel(r, between, someSize(r))
		if checkProcessing(t, someWeights(r, rows, 16), a, b) {
			told++
		}
	}
	if told < 1000 {
		t.Error(told)
	}
}

func swapped(table [][]int) [][]int {
	out := make([][]int, len(table[0]))
	for _, row := range table {
		for k, x := range row {
			out[k] = append(out[k], x)
		}
	}
	return out
}

// checkFano: what is not known of what went in is at most the entropy of being wrong, and the chance of that times the logarithm of one symbol less; it tells whether there is a table.
func checkFano(t *testing.T, p []int, c [][]int) bool {
	t.Helper()
	table, err := Table(p, c)
	if err != nil {
		return false
	}
	_, f, err := Guess(p, c)
	if err != nil {
		t.Fatal(p, c, err)
	}
	left := must(t)(dist.Given(swapped(table)))
	most := must(t)(dist.Entropy([]int{f.Num, f.Den - f.Num}))
	if len(c) > 1 {
		others := must(t)(logs.Of(api.Frac{Num: len(c) - 1, Den: 1}))
		most = must(t)(logs.Add(most, must(t)(logs.Scale(others, f))))
	}
	checkAtMost(t, left, most, p, c)
	return true
}

func TestFano(t *testing.T) {
	for _, size := range []struct{ rows, columns, most int }{{1, 2, 3}, {2, 1, 3}, {2, 2, 3}, {2, 3, 1}, {3, 2, 1}, {3, 1, 2}} {
		lists := allWeights(size.rows, 3)
		eachChannel(size.rows, size.columns, size.most, func(c [][]int) {
			for _, p := range lists {
				checkFano(t, p, c)
			}
		})
	}
	r := rand.New(rand.NewSource(854))
	told := 0
	for range 4000 {
		rows := someSize(r)
		if checkFano(t, someWeights(r, rows, 64), someChannel(r, rows, someSize(r))) {
			told++
		}
	}
	if told < 1000 {
		t.Error(told)
	}
}

// Fano's bound is met where all that is wrong is as likely.
func TestFanoIsMet(t *testing.T) {
	for n := 2; n <= 16; n++ {
		c := turned(n, append([]int{3 * (n - 1)}, many(n-1, 1)...))
		_, f, err := Guess(many(n, 1), c)
		if err != nil || f != (api.Frac{Num: 1, Den: 4}) {
			t.Error(n, f, err)
		}
		through := must(t)(Through(many(n, 1), c))
		left := difference(t, must(t)(logs.Of(api.Frac{Num: n, Den: 1})), through)
		others := must(t)(logs.Scale(must(t)(logs.Of(api.Frac{Num: n - 1, Den: 1})), f))
		if most := must(t)(logs.Add(must(t)(dist.Entropy([]int{1, 3})), others)); !sameLog(left, most) {
			t.Error(n, left, most)
		}
	}
}
