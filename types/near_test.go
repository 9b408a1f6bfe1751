package types

import (
	"math"
	"math/big"
	"math/rand"
	"slices"
	"testing"

	"demon/api"
)

// P72

func TestChance(t *testing.T) {
	for _, c := range []struct {
		t, q []int
		want api.Frac
	}{
		{[]int{2, 1}, []int{1, 2}, api.Frac{Num: 2, Den: 9}},
		{[]int{1, 2}, []int{1, 2}, api.Frac{Num: 4, Den: 9}},
		{[]int{2, 1}, []int{1000, 2000}, api.Frac{Num: 2, Den: 9}},
		{[]int{1, 1}, []int{1, 1}, api.Frac{Num: 1, Den: 2}},
		{[]int{0}, []int{5}, api.Frac{Num: 1, Den: 1}},
		{[]int{20}, []int{4096}, api.Frac{Num: 1, Den: 1}},
		{[]int{0, 0}, []int{0, 3}, api.Frac{Num: 1, Den: 1}},
		{[]int{0, 5}, []int{0, 3}, api.Frac{Num: 1, Den: 1}},
		{[]int{1, 4}, []int{0, 3}, api.Frac{Num: 0, Den: 1}},
		{[]int{20, 0}, []int{0, 4096}, api.Frac{Num: 0, Den: 1}},
		{[]int{1, 0, 0}, []int{0, 4095, 1}, api.Frac{Num: 0, Den: 1}},
		{many(6, 1), many(6, 1), api.Frac{Num: 5, Den: 324}},
		{[]int{10, 10}, []int{2048, 2048}, api.Frac{Num: 46189, Den: 262144}},
		{[]int{5, 0}, []int{1, 4095}, api.Frac{Num: 1, Den: 1 << 60}},
		{[]int{20, 0, 0}, []int{1, 3, 4}, api.Frac{Num: 1, Den: 1 << 60}},
		// 15 to the power of 12, times 455, over 2 to the power of 62: the greatest number that is told.
		{[]int{4, 12}, []int{1, 15}, api.Frac{Num: 129746337890625 * 455, Den: api.MaxTold}},
	} {
		if got, err := Chance(c.t, c.q); got != c.want || err != nil {
			t.Error(c, got, err)
		}
	}
}

func TestChanceRefuses(t *testing.T) {
	for _, c := range []struct {
		t, q []int
		err  error
	}{
		{[]int{2}, nil, api.ErrShape},
		{[]int{2}, []int{0}, api.ErrShape},
		{[]int{1, 1}, []int{1, -1}, api.ErrShape},
		{[]int{2}, []int{4097}, api.ErrBound},
		{[]int{2}, []int{2048, 2049}, api.ErrBound},
		{[]int{2}, many(17, 1), api.ErrBound},
		{[]int{2}, many(17, -1), api.ErrBound},
		{[]int{2}, []int{1, 2}, api.ErrShape},
		{[]int{2, 0, 0}, []int{1, 2}, api.ErrShape},
		{many(6, 0), many(16, 1), api.ErrShape},
		{[]int{10, 10, 0}, []int{1000, 2001}, api.ErrShape},
		{[]int{10, 10}, []int{1000, 2001}, api.ErrBound},
		{[]int{6, 0}, []int{1, 4095}, api.ErrBound},
		{[]int{8, 8}, []int{1, 15}, api.ErrBound},
		{many(6, 3), []int{1, 1, 1, 1, 1, 4091}, api.ErrBound},
	} {
		if got, err := Chance(c.t, c.q); got != (api.Frac{}) || err != c.err {
			t.Error(c, got, err)
		}
	}
}

// Size's errors come first, whatever q is.
func TestChanceRefusesTypes(t *testing.T) {
	for _, c := range wrongTypes() {
		for _, q := range [][]int{nil, {1}, {-1}, {4097}, many(len(c.t), 1), many(17, 1)} {
			if got, err := Chance(c.t, q); got != (api.Frac{}) || err != c.err {
				t.Error(c, q, got, err)
			}
		}
	}
}

// The chance of a type is that of all its rows together.
func TestChanceOfRows(t *testing.T) {
	for _, q := range [][]int{{1}, {1, 1}, {2, 3}, {0, 1}, {1, 2, 3}, {3, 0, 5}, {1, 1, 2, 7}} {
		for n := range 7 {
			rows := allRows(n, len(q))
			eachType(n, len(q), func(p []int) {
				want := new(big.Rat)
				for _, row := range rows {
					if slices.Equal(typeOf(row, len(q)), p) {
						want.Add(want, chanceOfRow(row, q))
					}
				}
				if got, err := Chance(p, q); !isRat(got, want) || err != nil {
					t.Error(p, q, got, want, err)
				}
			})
		}
	}
}

func TestSomeChances(t *testing.T) {
	r := rand.New(rand.NewSource(72))
	told := 0
	for range 20000 {
		k := 1 + r.Intn(6)
		p, q := someType(r, r.Intn(21), k), someWeights(r, k, []int{1, 3, 16, 4096 / k}[r.Intn(4)])
		got, err := Chance(p, q)
		want := wantChance(p, q)
		if tooGreat(want) {
			if got != (api.Frac{}) || err != api.ErrBound {
				t.Error(p, q, got, want, err)
			}
			continue
		}
		told++
		if !isRat(got, want) || err != nil {
			t.Error(p, q, got, want, err)
		}
	}
	if told < 5000 || told > 19000 {
		t.Error(told)
	}
}

// P73

func TestNearest(t *testing.T) {
	for _, c := range []struct {
		n    int
		q    []int
		set  [][]int
		want int
	}{
		{3, []int{1, 1}, [][]int{{3, 0}, {1, 2}, {2, 1}}, 1},
		{3, []int{1, 1}, [][]int{{3, 0}, {2, 1}, {1, 2}}, 1},
		{3, []int{1, 2}, [][]int{{3, 0}, {2, 1}, {1, 2}}, 2},
		{3, []int{1, 1}, [][]int{{3, 0}, {0, 3}}, 0},
		{3, []int{1, 3}, [][]int{{3, 0}, {0, 3}}, 1},
		{1, []int{7}, [][]int{{1}}, 0},
		{20, []int{7}, [][]int{{20}, {20}}, 0},
		{2, []int{1, 0}, [][]int{{0, 2}, {1, 1}}, -1},
		{2, []int{1, 0}, [][]int{{0, 2}, {1, 1}, {2, 0}}, 2},
		{2, []int{1, 0, 1}, [][]int{{1, 1, 0}, {2, 0, 0}, {0, 0, 2}, {1, 0, 1}}, 3},
		{2, []int{1, 4095}, [][]int{{2, 0}}, 0},
		{2, []int{1, 1}, nil, -1},
		{2, []int{1, 1}, [][]int{}, -1},
		// Unlike numbers, yet one divergence: 4 to the power of 4 is 2 to the power of 8.
		{8, many(5, 1), [][]int{{4, 1, 1, 1, 1}, {2, 2, 2, 2, 0}}, 0},
		{8, many(5, 1), [][]int{{2, 2, 2, 2, 0}, {4, 1, 1, 1, 1}}, 0},
		{8, many(5, 1), [][]int{{2, 2, 2, 1, 1}, {2, 2, 2, 2, 0}, {4, 1, 1, 1, 1}}, 0},
		// The weights' own chances: no divergence at all.
		{4, []int{1, 3}, [][]int{{2, 2}, {0, 4}, {1, 3}}, 2},
		{4, []int{1000, 3000}, [][]int{{2, 2}, {0, 4}, {1, 3}}, 2},
		{16, many(16, 1), [][]int{append(many(14, 1), 2, 0), many(16, 1)}, 1},
		{20, many(16, 256), [][]int{append(many(15, 0), 20), append(many(15, 1), 5), append(many(12, 1), 2, 2, 2, 2)}, 2},
	} {
		if got, err := Nearest(c.n, c.q, c.set); got != c.want || err != nil {
			t.Error(c, got, err)
		}
	}
}

func TestNearestRefuses(t *testing.T) {
	good := [][]int{{1, 1}}
	for _, c := range []struct {
		n   int
		q   []int
		set [][]int
		err error
	}{
		{0, []int{1}, nil, api.ErrBound},
		{0, []int{1, 1}, [][]int{{0, 0}}, api.ErrBound},
		{-1, []int{1, 1}, nil, api.ErrBound},
		{21, []int{1, 1}, [][]int{{20, 1}}, api.ErrBound},
		{math.MinInt, nil, nil, api.ErrBound},
		{math.MaxInt, nil, nil, api.ErrBound},
		{0, nil, good, api.ErrBound},
		{2, []int{1, 1}, slices.Repeat(good, 401), api.ErrBound},
		{2, nil, slices.Repeat(good, 401), api.ErrBound},
		{2, []int{1, 1}, make([][]int, 401), api.ErrBound},
		{2, nil, good, api.ErrShape},
		{2, []int{}, nil, api.ErrShape},
		{2, []int{0, 0}, good, api.ErrShape},
		{2, []int{1, -1}, good, api.ErrShape},
		{2, []int{0, 0}, [][]int{{3, 3}}, api.ErrShape},
		{2, many(17, 1), good, api.ErrBound},
		{2, []int{4097, 0}, good, api.ErrBound},
		{2, []int{4096, 1}, [][]int{nil}, api.ErrBound},
	} {
		if got, err := Nearest(c.n, c.q, c.set); got != 0 || err != c.err {
			t.Error(c.n, c.q, len(c.set), got, err)
		}
	}
	if got, err := Nearest(2, []int{1, 1}, slices.Repeat(good, 400)); got != 0 || err != nil {
		t.Error(got, err)
	}
	far := append(slices.Repeat([][]int{{2, 0}}, 399), []int{1, 1})
	if got, err := Nearest(2, []int{1, 1}, far); got != 399 || err != nil {
		t.Error(got, err)
	}
}

func TestNearestFaults(t *testing.T) {
	for _, bad := range [][]int{
		nil, {}, {2}, {1, 1, 0}, {2, 0, 0}, {0, 0}, {1, 0}, {2, 1}, {3, 0}, {-1, 3}, {3, -1}, {2, -1},
		{math.MinInt, 2}, {math.MaxInt, math.MinInt}, {math.MinInt, math.MinInt}, {math.MaxInt, math.MaxInt},
	} {
		for at := range 4 {
			set := append(slices.Repeat([][]int{{2, 0}}, at), bad, []int{1, 1}, nil)
			for _, q := range [][]int{{1, 1}, {1, 0}, {0, 1}} {
				if got, err := Nearest(2, q, set); got != 0 || !isFault(err, at) {
					t.Error(set, q, got, err)
				}
			}
		}
	}
	// Sums that are n only as they wrap round.
	for _, bad := range [][]int{{math.MaxInt, math.MaxInt, 4}, {1 << 62, 1 << 62, math.MinInt + 2}, {2, math.MinInt, math.MinInt}} {
		if got, err := Nearest(2, []int{1, 1, 1}, [][]int{bad}); sumOf(bad) != 2 || got != 0 || !isFault(err, 0) {
			t.Error(bad, got, err)
		}
	}
}

func TestNearestOfAll(t *testing.T) {
	r := rand.New(rand.NewSource(73))
	for n := 1; n <= api.MaxTypes; n++ {
		for k := 1; k <= 6; k++ {
			if count, _ := Count(n, k); count > 400 {
				continue
			}
			all, err := All(n, k)
			if err != nil {
				t.Fatal(n, k, err)
			}
			for _, q := range [][]int{many(k, 1), someWeights(r, k, 3), someWeights(r, k, 4096/k)} {
				if got, err := Nearest(n, q, all); got != wantNearest(t, q, all) || err != nil {
					t.Error(n, q, got, err)
				}
			}
		}
	}
}

func TestSomeNearest(t *testing.T) {
	r := rand.New(rand.NewSource(74))
	none := 0
	for range 3000 {
		k := 1 + r.Intn(api.MaxSize)
		n, q := 1+r.Intn(api.MaxTypes), someWeights(r, k, []int{1, 3, 30, 4096 / k}[r.Intn(4)])
		set := someSet(r, n, k, 12)
		got, err := Nearest(n, q, set)
		if got != wantNearest(t, q, set) || err != nil {
			t.Error(n, q, set, got, err)
		}
		if got < 0 && len(set) > 0 {
			none++
		}
	}
	if none < 100 {
		t.Error(none)
	}
}

// Of types as near as each other the first one is taken, however they stand.
func TestFirstOfAsNear(t *testing.T) {
	r := rand.New(rand.NewSource(75))
	for range 500 {
		k := 2 + r.Intn(5)
		n, q := 1+r.Intn(api.MaxTypes), many(k, 1+r.Intn(600))
		near := someType(r, n, k)
		var set [][]int
		for range 20 {
			turned := slices.Clone(near)
			r.Shuffle(k, func(i, j int) { turned[i], turned[j] = turned[j], turned[i] })
			set = append(set, turned)
		}
		if got, err := Nearest(n, q, set); got != 0 || err != nil {
			t.Error(n, q, set, got, err)
		}
	}
}
