package dist

import (
	"math"
	"math/rand"
	"slices"
	"testing"

	"demon/api"
)

func many(n, x int) []int { return slices.Repeat([]int{x}, n) }

// with is w with x at the place i.
func with(w []int, i, x int) []int {
	out := slices.Clone(w)
	out[i] = x
	return out
}

// table of so many rows and columns, all of one weight.
func table(rows, columns, x int) [][]int {
	var out [][]int
	for range rows {
		out = append(out, many(columns, x))
	}
	return out
}

type weightsCase struct {
	w   []int
	err error
}

func weightsCases() []weightsCase {
	return []weightsCase{
		{[]int{1}, nil},
		{[]int{0, 1}, nil},
		{[]int{api.MaxWeight}, nil},
		{[]int{0, api.MaxWeight, 0}, nil},
		{[]int{api.MaxWeight - 1, 1}, nil},
		{many(16, 256), nil},
		{with(many(16, 0), 15, 1), nil},
		{many(16, 0), api.ErrShape},
		{nil, api.ErrShape},
		{[]int{}, api.ErrShape},
		{[]int{0}, api.ErrShape},
		{[]int{-1}, api.ErrShape},
		{[]int{1, -1}, api.ErrShape},
		{[]int{-1, 2}, api.ErrShape},
		{[]int{api.MaxWeight + 1}, api.ErrBound},
		{[]int{api.MaxWeight, 1}, api.ErrBound},
		{[]int{1, api.MaxWeight}, api.ErrBound},
		{with(many(16, 256), 15, 257), api.ErrBound},
		{[]int{math.MaxInt, math.MaxInt}, api.ErrBound},
		{[]int{math.MaxInt, math.MaxInt, 2}, api.ErrBound},
		{[]int{1, 1 << 62, 1 << 62, 1 << 62, 1 << 62}, api.ErrBound},
		{[]int{math.MaxInt, -1}, api.ErrShape},
		{[]int{api.MaxWeight + 1, math.MinInt}, api.ErrShape},
		{many(17, 1), api.ErrBound},
		{many(17, 0), api.ErrBound},
		{many(17, -1), api.ErrBound},
		{many(5000, 1), api.ErrBound},
	}
}

type tableCase struct {
	t   [][]int
	err error
}

func tableCases() []tableCase {
	out := []tableCase{
		{table(16, 16, 16), nil},
		{table(16, 1, 256), nil},
		{table(1, 16, 256), nil},
		{[][]int{{0, 0}, {0, 1}, {0, 0}}, nil},
		{[][]int{{api.MaxWeight, 0}, {0, 0}}, nil},
		{nil, api.ErrShape},
		{[][]int{}, api.ErrShape},
		{[][]int{nil}, api.ErrShape},
		{[][]int{{}, nil}, api.ErrShape},
		{[][]int{{1}, {}}, api.ErrShape},
		{[][]int{{}, {1}}, api.ErrShape},
		{[][]int{{1, 2}, {3}}, api.ErrShape},
		{[][]int{{1}, {2, 3}}, api.ErrShape},
		{[][]int{{1, 2}, {3, 4}, {5}}, api.ErrShape},
		{[][]int{{0, 0}, {0, 0}}, api.ErrShape},
		{[][]int{{1, 2}, {3, -4}}, api.ErrShape},
		{[][]int{{api.MaxWeight + 1, 2}, {3, -4}}, api.ErrShape},
		{[][]int{{api.MaxWeight + 1}, {1, 2}}, api.ErrShape},
		{[][]int{{api.MaxWeight, 0}, {0, 1}}, api.ErrBound},
		{[][]int{{0, 0}, {0, api.MaxWeight + 1}}, api.ErrBound},
		{[][]int{{math.MaxInt, 1}, {math.MaxInt, 1}}, api.ErrBound},
		{append(table(15, 16, 16), with(many(16, 16), 15, 17)), api.ErrBound},
		{table(17, 1, 1), api.ErrBound},
		{table(17, 1, -1), api.ErrBound},
		{make([][]int, 17), api.ErrBound},
		{table(1, 17, 1), api.ErrBound},
		{[][]int{{1}, {}, many(17, 0)}, api.ErrBound},
		{[][]int{many(17, -1), {1}}, api.ErrBound},
		{[][]int{{-1}, many(17, 1)}, api.ErrBound},
	}
	for _, c := range weightsCases() {
		out = append(out, tableCase{[][]int{c.w}, c.err})
	}
	return out
}

// P20

func TestValid(t *testing.T) {
	for _, c := range weightsCases() {
		if err := Valid(c.w); err != c.err {
			t.Error(c, err)
		}
	}
}

func TestTable(t *testing.T) {
	for _, c := range tableCases() {
		if err := Table(c.t); err != c.err {
			t.Error(c, err)
		}
	}
}

// P23, the weights of each thing.

func TestRowsAndColumns(t *testing.T) {
	for _, c := range []struct {
		t             [][]int
		rows, columns []int
	}{
		{[][]int{{1, 1}, {2, 0}}, []int{2, 2}, []int{3, 1}},
		{[][]int{{7}}, []int{7}, []int{7}},
		{[][]int{{1, 2, 3}}, []int{6}, []int{1, 2, 3}},
		{[][]int{{1}, {2}, {3}}, []int{1, 2, 3}, []int{6}},
		{[][]int{{0, 0, 0}, {1, 0, 20}}, []int{0, 21}, []int{1, 0, 20}},
		{table(16, 16, 16), many(16, 256), many(16, 256)},
		{table(2, 16, 1), []int{16, 16}, many(16, 2)},
	} {
		if r, err := Rows(c.t); err != nil || !slices.Equal(r, c.rows) {
			t.Error(c, r, err)
		}
		if k, err := Columns(c.t); err != nil || !slices.Equal(k, c.columns) {
			t.Error(c, k, err)
		}
	}
	for _, c := range tableCases() {
		if r, err := Rows(c.t); err != c.err || (len(r) == 0) != (err != nil) {
			t.Error(c, r, err)
		}
		if k, err := Columns(c.t); err != c.err || (len(k) == 0) != (err != nil) {
			t.Error(c, k, err)
		}
	}
}

// P24

func TestVariation(t *testing.T) {
	for _, c := range []struct {
		p, q []int
		want api.Frac
	}{
		{[]int{1, 1, 2}, []int{2, 1, 1}, api.Frac{Num: 1, Den: 4}},
		{[]int{3}, []int{5}, api.Frac{Num: 0, Den: 1}},
		{[]int{1, 2}, []int{2, 4}, api.Frac{Num: 0, Den: 1}},
		{[]int{1, 0}, []int{0, 9}, api.Frac{Num: 1, Den: 1}},
		{[]int{1, 1}, []int{1, 3}, api.Frac{Num: 1, Den: 4}},
		{[]int{1, 2}, []int{1, 1}, api.Frac{Num: 1, Den: 6}},
		{[]int{0, api.MaxWeight}, []int{api.MaxWeight, 0}, api.Frac{Num: 1, Den: 1}},
		{[]int{1, 4095}, []int{1, 4094}, api.Frac{Num: 1, Den: 4095 * 4096}},
		{many(16, 256), with(many(16, 0), 3, 4096), api.Frac{Num: 15, Den: 16}},
	} {
		for range 2 {
			if f, err := Variation(c.p, c.q); err != nil || f != c.want {
				t.Error(c, f, err)
			}
			c.p, c.q = c.q, c.p
		}
	}
}

func TestVariationIsExact(t *testing.T) {
	r := rand.New(rand.NewSource(24))
	for _, p := range someLists(r) {
		q := someWeights(r, len(p), 1+r.Intn(api.MaxWeight/len(p)))
		f, err := Variation(p, q)
		want := wantVariation(p, q)
		if err != nil || int64(f.Num) != want.Num().Int64() || int64(f.Den) != want.Denom().Int64() {
			t.Error(p, q, f, err, want)
		}
	}
}

// pairErrors are the errors that Variation and Divergence have in common.
func pairErrors() []struct {
	p, q []int
	err  error
} {
	shape, bound := []int{1, -1}, []int{api.MaxWeight, 1}
	return []struct {
		p, q []int
		err  error
	}{
		{nil, nil, api.ErrShape},
		{nil, []int{1}, api.ErrShape},
		{[]int{1}, nil, api.ErrShape},
		{[]int{1}, []int{1, 1}, api.ErrShape},
		{[]int{1, 1}, []int{1}, api.ErrShape},
		{[]int{0, 1}, []int{1}, api.ErrShape},
		{shape, bound, api.ErrShape},
		{bound, shape, api.ErrBound},
		{bound, []int{1, 1}, api.ErrBound},
		{[]int{1, 1}, bound, api.ErrBound},
		{[]int{1}, bound, api.ErrBound},
		{[]int{1, 1}, shape, api.ErrShape},
		{shape, []int{1, 1}, api.ErrShape},
		{many(17, 1), many(17, 1), api.ErrBound},
		{[]int{1}, many(17, 1), api.ErrBound},
	}
}

func TestVariationRefuses(t *testing.T) {
	for _, c := range pairErrors() {
		if err := ValidPair(c.p, c.q); err != c.err {
			t.Error(c, err)
		}
		if f, err := Variation(c.p, c.q); err != c.err || f != (api.Frac{}) {
			t.Error(c, f, err)
		}
	}
}

// P25

func TestMerge(t *testing.T) {
	for _, c := range []struct{ w, to, want []int }{
		{[]int{1, 2, 3}, []int{3, 0, 3}, []int{2, 0, 0, 4}},
		{[]int{1, 2, 3}, []int{0, 0, 0}, []int{6}},
		{[]int{1, 2, 3}, []int{2, 1, 0}, []int{3, 2, 1}},
		{[]int{5, 0}, []int{0, 2}, []int{5, 0, 0}},
		{[]int{5}, []int{15}, with(many(16, 0), 15, 5)},
		{[]int{5}, []int{0}, []int{5}},
		{many(16, 256), many(16, 1), []int{0, 4096}},
	} {
		if l, err := Merge(c.w, c.to); err != nil || !slices.Equal(l, c.want) || Valid(l) != nil {
			t.Error(c, l, err)
		}
	}
}

func TestMergeRefuses(t *testing.T) {
	three := []int{1, 2, 3}
	for _, c := range []struct {
		w, to []int
		err   error
	}{
		{three, nil, api.ErrShape},
		{three, []int{}, api.ErrShape},
		{three, []int{0, 0}, api.ErrShape},
		{three, []int{0, 0, 0, 0}, api.ErrShape},
		{three, []int{0, 0, 16}, api.ErrShape},
		{three, []int{0, -1, 0}, api.ErrShape},
		{three, []int{math.MaxInt, 0, 0}, api.ErrShape},
		{three, []int{math.MinInt, 0, 0}, api.ErrShape},
		{three, []int{-1, 16, 0}, api.ErrShape},
		{[]int{1, 0}, []int{0, 16}, api.ErrShape},
		{[]int{api.MaxWeight, 1}, []int{-1}, api.ErrBound},
		{many(17, 1), many(17, 0), api.ErrBound},
		{nil, nil, api.ErrShape},
	} {
		if l, err := Merge(c.w, c.to); err != c.err || len(l) != 0 {
			t.Error(c, l, err)
		}
	}
	for _, c := range weightsCases() {
		if l, err := Merge(c.w, many(len(c.w), 0)); err != c.err || (len(l) == 0) != (err != nil) {
			t.Error(c, l, err)
		}
	}
}
