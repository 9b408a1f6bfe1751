package ising

import (
	"math"
	"math/big"
	"math/rand"
	"testing"

	"demon/api"
)

// P124

func TestMean(t *testing.T) {
	for _, x := range []struct {
		counts []int
		x      api.Frac
		want   api.Frac
	}{
		{[]int{2, 2}, frac(1, 3), frac(1, 4)},
		{[]int{2, 2}, frac(3, 1), frac(3, 4)},
		{[]int{1}, frac(1, 1), frac(0, 1)},
		{[]int{1 << 20}, frac(1000, 999), frac(0, 1)},
		{[]int{0, 1}, frac(1, 1000), frac(1, 1)},
		{[]int{0, 0, 0, 7, 0}, frac(17, 5), frac(3, 1)},
		{[]int{1, 0, 0}, frac(2, 3), frac(0, 1)},
		{[]int{2, 0, 6, 0}, frac(1, 1), frac(3, 2)},
		{[]int{2, 0, 6, 0}, frac(1, 2), frac(6, 7)},
		{[]int{2, 0, 6, 0}, frac(2, 1), frac(24, 13)},
		// x is a number, whether it is in its lowest terms or not.
		{[]int{2, 0, 6, 0}, frac(500, 1000), frac(6, 7)},
		{[]int{2, 0, 6, 0}, frac(1000, 1000), frac(3, 2)},
		{append(make([]int, 30), 1), frac(999, 1000), frac(30, 1)},
		{many(31, 1<<20), frac(1, 1), frac(15, 1)},
	} {
		if f, err := Mean(x.counts, x.x); f != x.want || err != nil {
			t.Error(x, f, err)
		}
	}
}

func TestMeanRefuses(t *testing.T) {
	most, least := math.MaxInt, math.MinInt
	one := frac(1, 1)
	for _, x := range []struct {
		counts []int
		x      api.Frac
		err    error
	}{
		{make([]int, 32), one, api.ErrBound},
		{many(32, 1), one, api.ErrBound},
		{make([]int, 100000), one, api.ErrBound},
		{nil, one, api.ErrShape},
		{[]int{}, one, api.ErrShape},
		{[]int{-1}, one, api.ErrShape},
		{[]int{1, least}, one, api.ErrShape},
		{[]int{1<<20 + 1}, one, api.ErrShape},
		{[]int{0, 1, 0, 1<<20 + 1}, one, api.ErrShape},
		{[]int{most, 1}, one, api.ErrShape},
		{[]int{1}, frac(0, 1), api.ErrShape},
		{[]int{1}, frac(1, 0), api.ErrShape},
		{[]int{1}, frac(0, 0), api.ErrShape},
		{[]int{1}, frac(-1, 1), api.ErrShape},
		{[]int{1}, frac(1, -1), api.ErrShape},
		{[]int{1}, frac(-1, -1), api.ErrShape},
		{[]int{1}, frac(1001, 1000), api.ErrShape},
		{[]int{1}, frac(1000, 1001), api.ErrShape},
		{[]int{1}, frac(2000, 2000), api.ErrShape},
		{[]int{1}, frac(most, most), api.ErrShape},
		{[]int{1}, frac(least, least), api.ErrShape},
		{[]int{0}, one, api.ErrNone},
		{make([]int, 31), frac(1000, 1000), api.ErrNone},
		{many(31, 1), frac(999, 1000), api.ErrBound},
		// The first that is so is told.
		{append(many(31, 0), -1), frac(0, 0), api.ErrBound},
		{nil, frac(0, 1), api.ErrShape},
		{make([]int, 31), frac(1, 1001), api.ErrShape},
		{[]int{0, 0, -1}, one, api.ErrShape},
		{append(many(30, 1), -1), frac(999, 1000), api.ErrShape},
		{many(31, 1), frac(999, 1001), api.ErrShape},
	} {
		if f, err := Mean(x.counts, x.x); f != (api.Frac{}) || err != x.err {
			t.Error(x, f, err)
		}
	}
}

// checkMean tells whether it was told, and not too great.
func checkMean(t *testing.T, counts []int, x api.Frac) bool {
	t.Helper()
	want, most := wantMean(counts, x), big.NewInt(api.MaxTold)
	f, err := Mean(counts, x)
	if want.Num().Cmp(most) > 0 || want.Denom().Cmp(most) > 0 {
		if f != (api.Frac{}) || err != api.ErrBound {
			t.Error(counts, x, f, err)
		}
		return false
	}
	if err != nil || int64(f.Num) != want.Num().Int64() || int64(f.Den) != want.Denom().Int64() {
		t.Error(counts, x, f, want, err)
	}
	return true
}

func TestSomeMeans(t *testing.T) {
	r := rand.New(rand.NewSource(124))
	told, great := 0, 0
	for range 6000 {
		counts := make([]int, 1+r.Intn(31))
		for k := range counts {
			if r.Intn(2) == 0 {
				counts[k] = r.Intn(1 + 1<<r.Intn(21))
			}
		}
		counts[r.Intn(len(counts))] = 1 + r.Intn(1<<20)
		part := []int{2, 5, 30, 1000}[r.Intn(4)]
		if checkMean(t, counts, frac(1+r.Intn(part), 1+r.Intn(part))) {
			told++
		} else {
			great++
		}
	}
	if told < 1000 || great < 1000 {
		t.Error(told, great)
	}
}

// sumTo is 30 counts of which the lower sum of Mean (upper: the upper one) is a number, if x is 1 over 3. The first powers take nearly all, so that the other sum is less (but less of the very first one, so that there are several such counts); the rest is left to the last two.
func sumTo(number, less int, upper bool) []int {
	counts, powers, first := make([]int, 30), make([]int, 30), 0
	for k, p := 29, 1; k >= 0; k, p = k-1, 3*p {
		powers[k] = p
		if upper {
			powers[k], first = k*p, 1
		}
	}
	for k := first; k < 28; k++ {
		// Some thousands are left over, as not every lesser number is a sum of the last two.
		counts[k] = max(0, number-5000) / powers[k]
		if k == first {
			counts[k] -= less
		}
		number -= counts[k] * powers[k]
	}
	for number%powers[28] != 0 {
		counts[29]++
		number -= powers[29]
	}
	counts[28] = number / powers[28]
	return counts
}

// Just at the bound, and just above it.
func TestMeanAtBound(t *testing.T) {
	for _, upper := range []bool{false, true} {
		at := map[int]int{}
		for more := -3; more <= 3; more++ {
			for less := range 12 {
				counts, x := sumTo(api.MaxTold+more, less, upper), frac(1, 3)
				is := checkMean(t, counts, x)
				// Some of them are not in their lowest terms.
				if numberOf(wantMean(counts, x), upper) == api.MaxTold+more {
					at[more]++
					if is != (more <= 0) {
						t.Error(more, less, upper, counts)
					}
				}
			}
		}
		if at[-2] == 0 || at[0] == 0 || at[1] == 0 {
			t.Error(upper, at)
		}
	}
}

func numberOf(f *big.Rat, upper bool) int {
	if upper {
		return int(f.Num().Int64())
	}
	return int(f.Denom().Int64())
}
