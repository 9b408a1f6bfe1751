package dist

// P26

import (
	"math"
	"math/rand"
	"testing"

	"demon/api"
	"demon/logs"
)

// sign is exact where the bound of P13 lets it be so; else it is told by floats, 0 where they are too near.
func sign(t *testing.T, a api.Log) int {
	t.Helper()
	n, err := logs.Sign(a)
	if err == nil {
		return n
	}
	switch v := about(a); {
	case v > 1e-9:
		return 1
	case v < -1e-9:
		return -1
	}
	return 0
}

func TestChainRule(t *testing.T) {
	for _, x := range someTables(rand.New(rand.NewSource(261))) {
		rows, _ := Rows(x)
		columns, _ := Columns(x)
		r, c := must(t)(Entropy(rows)), must(t)(Entropy(columns))
		j, g, m := must(t)(Joint(x)), must(t)(Given(x)), must(t)(Mutual(x))
		if !same(j, add(t, r, g)) {
			t.Error("Joint is not Rows and Given:", x)
		}
		if !same(m, less(t, add(t, r, c), j)) {
			t.Error("Mutual is not Rows and Columns less Joint:", x)
		}
		if sign(t, less(t, c, g)) < 0 {
			t.Error("Given is above Columns:", x)
		}
		if sign(t, m) < 0 || sign(t, g) < 0 {
			t.Error("below 0:", x, m, g)
		}
	}
}

// Of all short lists of small weights.
func TestGibbs(t *testing.T) {
	lists := allWeights(3, 4)
	for _, p := range lists {
		for _, q := range lists {
			d, err := Divergence(p, q)
			if lacks(p, q) {
				if err != api.ErrZero {
					t.Error(p, q, d, err)
				}
				continue
			}
			n, bad := logs.Sign(must(t)(d, err))
			if bad != nil || n < 0 || (n == 0) != sameChances(p, q) || (n == 0) != (len(d.L) == 0) {
				t.Error(p, q, d, n, bad)
			}
			checkPinsker(t, p, q, d)
		}
	}
}

func TestGibbsAndPinsker(t *testing.T) {
	r := rand.New(rand.NewSource(262))
	for _, p := range someLists(r) {
		q := someWeights(r, len(p), 1+r.Intn(api.MaxWeight/len(p)))
		for i := range q {
			q[i] = 1 + q[i]/2
		}
		d := must(t)(Divergence(p, q))
		if sign(t, d) < 0 || sameChances(p, q) != (len(d.L) == 0) {
			t.Error(p, q, d)
		}
		checkPinsker(t, p, q, d)
	}
}

func checkPinsker(t *testing.T, p, q []int, d api.Log) {
	t.Helper()
	f, err := Variation(p, q)
	if err != nil {
		t.Fatal(err)
	}
	v := float64(f.Num) / float64(f.Den)
	if about(d) < 2*v*v/math.Ln2-1e-9 {
		t.Error("Pinsker:", p, q, d, f)
	}
	if (f.Num == 0) != sameChances(p, q) || f.Num > f.Den {
		t.Error(p, q, f)
	}
}

func TestDataProcessing(t *testing.T) {
	r := rand.New(rand.NewSource(263))
	for _, w := range someLists(r) {
		to := make([]int, len(w))
		for i := range to {
			to[i] = r.Intn(1 + r.Intn(api.MaxSize))
		}
		l, err := Merge(w, to)
		if err != nil {
			t.Fatal(w, to, err)
		}
		if sign(t, less(t, must(t)(Entropy(w)), must(t)(Entropy(l)))) < 0 {
			t.Error(w, to, l)
		}
	}
}

// allWeights are all lists of n weights, each up to most, but the one of nothing but 0.
func allWeights(n, most int) [][]int {
	out := [][]int{nil}
	for range n {
		var longer [][]int
		for _, w := range out {
			for x := range most + 1 {
				longer = append(longer, append(w[:len(w):len(w)], x))
			}
		}
		out = longer
	}
	return out[1:]
}

func sameChances(p, q []int) bool {
	for i := range p {
		if p[i]*sumOf(q) != q[i]*sumOf(p) {
			return false
		}
	}
	return true
}
