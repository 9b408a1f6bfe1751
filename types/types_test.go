package types

import (
	"fmt"
	"math"
	"math/big"
	"slices"
	"testing"

	"demon/api"
)

// P70

func TestCount(t *testing.T) {
	for _, c := range []struct{ n, k, want int }{
		{0, 1, 1}, {0, 6, 1}, {1, 1, 1}, {20, 1, 1}, {1, 6, 6}, {2, 3, 6}, {3, 2, 4}, {20, 2, 21}, {20, 3, 231}, {20, 4, 1771}, {20, 5, 10626}, {20, 6, 53130},
	} {
		if got, err := Count(c.n, c.k); got != c.want || err != nil {
			t.Error(c, got, err)
		}
	}
}

// A type without its first number is one of fewer: so counts add up.
func TestCountsAddUp(t *testing.T) {
	for n := range api.MaxTypes + 1 {
		for k := 2; k <= 6; k++ {
			want := 0
			for left := range n + 1 {
				part, err := Count(left, k-1)
				if err != nil {
					t.Fatal(left, k-1, err)
				}
				want += part
			}
			if got, err := Count(n, k); got != want || err != nil {
				t.Error(n, k, got, want, err)
			}
		}
	}
}

func TestAll(t *testing.T) {
	for _, c := range []struct {
		n, k int
		want string
	}{
		{0, 1, "[[0]]"},
		{0, 3, "[[0 0 0]]"},
		{20, 1, "[[20]]"},
		{1, 3, "[[0 0 1] [0 1 0] [1 0 0]]"},
		{3, 2, "[[0 3] [1 2] [2 1] [3 0]]"},
		{2, 3, "[[0 0 2] [0 1 1] [0 2 0] [1 0 1] [1 1 0] [2 0 0]]"},
		{10, 2, "[[0 10] [1 9] [2 8] [3 7] [4 6] [5 5] [6 4] [7 3] [8 2] [9 1] [10 0]]"},
	} {
		l, err := All(c.n, c.k)
		if got := fmt.Sprint(l); got != c.want || err != nil {
			t.Error(c, got, err)
		}
	}
}

// All are the types of all rows, in order.
func TestAllOfRows(t *testing.T) {
	for n := range 8 {
		for k := 1; k <= 5; k++ {
			l, err := All(n, k)
			if want := typesOf(allRows(n, k), k); !slices.EqualFunc(l, want, slices.Equal) || err != nil {
				t.Error(n, k, l, want, err)
			}
		}
	}
}

// Whatever n and k: as many as Count says, each one behind the one ahead of it; more than 4000 are not told.
func TestAllAreCounted(t *testing.T) {
	told, most := 0, 0
	for n := range api.MaxTypes + 1 {
		for k := 1; k <= 6; k++ {
			count, err := Count(n, k)
			l, bad := All(n, k)
			if err != nil || (bad != nil) != (count > 4000) {
				t.Error(n, k, count, err, bad)
			}
			if count > 4000 {
				if l != nil || bad != api.ErrBound {
					t.Error(n, k, len(l), bad)
				}
				continue
			}
			told, most = told+1, max(most, count)
			var want [][]int
			eachType(n, k, func(p []int) { want = append(want, slices.Clone(p)) })
			if len(l) != count || !slices.EqualFunc(l, want, slices.Equal) {
				t.Error(n, k, count, len(l))
			}
		}
	}
	// All n of k up to 4, n up to 15 of 5, and up to 10 of 6.
	if told != 4*21+16+11 || most != 3876 {
		t.Error(told, most)
	}
}

func TestCountsRefused(t *testing.T) {
	for _, n := range wildNumbers() {
		for _, k := range wildNumbers() {
			if n >= 0 && n <= 20 && k >= 1 && k <= 6 {
				continue
			}
			count, err := Count(n, k)
			l, bad := All(n, k)
			if count != 0 || err != api.ErrBound || l != nil || bad != api.ErrBound {
				t.Error(n, k, count, err, l, bad)
			}
		}
	}
}

// P71

func TestSize(t *testing.T) {
	for _, c := range []struct {
		t    []int
		want int
	}{
		{[]int{0}, 1},
		{many(6, 0), 1},
		{[]int{20}, 1},
		{[]int{0, 20, 0}, 1},
		{[]int{2, 1}, 3},
		{[]int{1, 0, 2}, 3},
		{many(6, 1), 720},
		{[]int{1, 19}, 20},
		{[]int{19, 1}, 20},
		{[]int{10, 10}, 184756},
		{[]int{0, 10, 0, 0, 10, 0}, 184756},
		{many(5, 4), 305540235000},
		{[]int{3, 3, 4, 4, 3, 3}, 3259095840000},
		{[]int{5, 3, 3, 3, 3, 3}, 2607276672000},
	} {
		if got, err := Size(c.t); got != c.want || err != nil {
			t.Error(c, got, err)
		}
	}
}

func TestSizeCountsRows(t *testing.T) {
	for n := range 8 {
		for k := 1; k <= 4; k++ {
			rows := allRows(n, k)
			eachType(n, k, func(p []int) {
				want := 0
				for _, row := range rows {
					if slices.Equal(typeOf(row, k), p) {
						want++
					}
				}
				if got, err := Size(p); got != want || err != nil {
					t.Error(p, got, want, err)
				}
			})
		}
	}
}

func TestSizeOfEach(t *testing.T) {
	for n := range api.MaxTypes + 1 {
		for k := 1; k <= 6; k++ {
			eachType(n, k, func(p []int) {
				if got, err := Size(p); big.NewInt(int64(got)).Cmp(wantSize(p)) != 0 || err != nil {
					t.Error(p, got, err)
				}
			})
		}
	}
}

type wrongType struct {
	t   []int
	err error
}

// wrongTypes are refused by Size, and so by Chance.
func wrongTypes() []wrongType {
	return []wrongType{
		{nil, api.ErrShape},
		{[]int{}, api.ErrShape},
		{[]int{-1}, api.ErrShape},
		{[]int{3, -1}, api.ErrShape},
		{[]int{-1, 99}, api.ErrShape},
		{[]int{99, -1}, api.ErrShape},
		{[]int{20, 20, 0, 0, 0, -1}, api.ErrShape},
		{[]int{math.MinInt, math.MaxInt}, api.ErrShape},
		{[]int{math.MaxInt, math.MinInt}, api.ErrShape},
		{[]int{21}, api.ErrBound},
		{[]int{20, 1}, api.ErrBound},
		{[]int{1, 20}, api.ErrBound},
		{[]int{4, 4, 4, 4, 4, 1}, api.ErrBound},
		{[]int{math.MaxInt}, api.ErrBound},
		{[]int{math.MaxInt, math.MaxInt, 4}, api.ErrBound},
		{[]int{1 << 62, 1 << 62, 1 << 62, 1 << 62, 2}, api.ErrBound},
		{many(7, 0), api.ErrBound},
		{many(7, 1), api.ErrBound},
		{many(7, -1), api.ErrBound},
		{many(100000, 0), api.ErrBound},
	}
}

func TestSizeRefuses(t *testing.T) {
	for _, c := range wrongTypes() {
		if got, err := Size(c.t); got != 0 || err != c.err {
			t.Error(c, got, err)
		}
	}
}
