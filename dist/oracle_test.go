package dist

// What the tests hold the package against: the document's words, term by term, by chapter 1's calls and by math/big.

import (
	"math"
	"math/big"
	"math/rand"
	"slices"
	"testing"

	"demon/api"
	"demon/logs"
)

func same(a, b api.Log) bool { return a.Den == b.Den && slices.Equal(a.L, b.L) }

func must(t *testing.T) func(a api.Log, err error) api.Log {
	return func(a api.Log, err error) api.Log {
		t.Helper()
		if err != nil {
			t.Fatal(err)
		}
		if err := logs.Valid(a); err != nil {
			t.Fatal("not in form: ", a)
		}
		return a
	}
}

func text(t *testing.T, a api.Log, err error) string {
	t.Helper()
	s, bad := logs.Text(must(t)(a, err))
	if bad != nil {
		t.Fatal(bad)
	}
	return s
}

// times is n over d times the logarithm of above over below.
func times(t *testing.T, n, d, above, below int) api.Log {
	t.Helper()
	a := must(t)(logs.Of(api.Frac{Num: above, Den: below}))
	return must(t)(logs.Scale(a, api.Frac{Num: n, Den: d}))
}

func add(t *testing.T, l ...api.Log) api.Log {
	t.Helper()
	out := api.Log{Den: 1}
	for _, a := range l {
		out = must(t)(logs.Add(out, a))
	}
	return out
}

func less(t *testing.T, a, b api.Log) api.Log {
	t.Helper()
	return add(t, a, must(t)(logs.Scale(b, api.Frac{Num: -1, Den: 1})))
}

func sumOf(w []int) int {
	n := 0
	for _, x := range w {
		n += x
	}
	return n
}

func wantEntropy(t *testing.T, w []int) api.Log {
	t.Helper()
	all, out := sumOf(w), api.Log{Den: 1}
	for _, x := range w {
		if x > 0 {
			out = add(t, out, times(t, x, all, all, x))
		}
	}
	return out
}

func wantDivergence(t *testing.T, p, q []int) api.Log {
	t.Helper()
	allP, allQ, out := sumOf(p), sumOf(q), api.Log{Den: 1}
	for i, x := range p {
		if x > 0 {
			out = add(t, out, times(t, x, allP, x, q[i]), times(t, x, allP, allQ, allP))
		}
	}
	return out
}

func wantGiven(t *testing.T, table [][]int) api.Log {
	t.Helper()
	all, out := sumOf(slices.Concat(table...)), api.Log{Den: 1}
	for _, row := range table {
		if n := sumOf(row); n > 0 {
			out = add(t, out, must(t)(logs.Scale(wantEntropy(t, row), api.Frac{Num: n, Den: all})))
		}
	}
	return out
}

func wantMutual(t *testing.T, table [][]int) api.Log {
	t.Helper()
	all, out := sumOf(slices.Concat(table...)), api.Log{Den: 1}
	for _, row := range table {
		for k, x := range row {
			if x > 0 {
				out = add(t, out, times(t, x, all, x, sumOf(row)), times(t, x, all, all, sumOf(columnOf(table, k))))
			}
		}
	}
	return out
}

func columnOf(table [][]int, k int) []int {
	var out []int
	for _, row := range table {
		out = append(out, row[k])
	}
	return out
}

func wantVariation(p, q []int) *big.Rat {
	out := new(big.Rat)
	for i := range p {
		d := big.NewRat(int64(p[i]), int64(sumOf(p)))
		d.Sub(d, big.NewRat(int64(q[i]), int64(sumOf(q))))
		out.Add(out, d.Abs(d))
	}
	return out.Mul(out, big.NewRat(1, 2))
}

// about is a logarithm's value, nearly.
func about(a api.Log) float64 {
	out := 0.0
	for _, t := range a.L {
		out += float64(t.Coef) / float64(a.Den) * math.Log2(float64(t.Prime))
	}
	return out
}

// someWeights are n of them, up to most, not all 0; some are 0.
func someWeights(r *rand.Rand, n, most int) []int {
	w := make([]int, n)
	for i := range w {
		if r.Intn(4) > 0 {
			w[i] = r.Intn(most + 1)
		}
	}
	w[r.Intn(n)] = 1 + r.Intn(most)
	return w
}

func someTable(r *rand.Rand, rows, columns, most int) [][]int {
	w := someWeights(r, rows*columns, most)
	var out [][]int
	for row := range slices.Chunk(w, columns) {
		out = append(out, slices.Clone(row))
	}
	return out
}

// someLists are weights of all lengths; the sums go up to the bound.
func someLists(r *rand.Rand) [][]int {
	var out [][]int
	for n := 1; n <= api.MaxSize; n++ {
		for _, most := range []int{1, 3, 30, api.MaxWeight / n} {
			for range 6 {
				out = append(out, someWeights(r, n, most))
			}
		}
	}
	return out
}

func someTables(r *rand.Rand) [][][]int {
	var out [][][]int
	for range 150 {
		rows, columns := 1+r.Intn(5), 1+r.Intn(5)
		if r.Intn(5) == 0 {
			rows, columns = 1+r.Intn(api.MaxSize), 1+r.Intn(api.MaxSize)
		}
		out = append(out, someTable(r, rows, columns, []int{1, 4, api.MaxWeight / rows / columns}[r.Intn(3)]))
	}
	return out
}
