package bayes

// P181

import (
	"math"
	"testing"

	"demon/api"
)

func TestErrors(t *testing.T) {
	for _, c := range []struct {
		p, q []int
		n    int
		want api.Frac
	}{
		{[]int{3, 1}, []int{1, 3}, 0, frac(1, 1)},
		{[]int{3, 1}, []int{1, 3}, 1, frac(1, 2)},
		{[]int{3, 1}, []int{1, 3}, 2, frac(1, 2)},
		{[]int{3, 1}, []int{1, 3}, 3, frac(5, 16)},
		{[]int{30, 10}, []int{2, 6}, 3, frac(5, 16)},
		{[]int{1}, []int{1}, 6, frac(1, 1)},
		{[]int{4096}, []int{7}, 6, frac(1, 1)},
		{[]int{1, 0}, []int{0, 1}, 0, frac(1, 1)},
		{[]int{1, 0}, []int{0, 1}, 1, frac(0, 1)},
		{[]int{1, 0}, []int{0, 1}, 6, frac(0, 1)},
		{[]int{1, 1}, []int{1, 0}, 1, frac(1, 2)},
		{[]int{1, 1}, []int{1, 0}, 6, frac(1, 64)},
		{[]int{1, 0}, []int{1, 1}, 6, frac(1, 64)},
		{[]int{1, 2, 1}, []int{2, 4, 2}, 6, frac(1, 1)},
		{[]int{1, 1, 1, 1}, []int{1, 1, 0, 0}, 3, frac(1, 8)},
		{[]int{1, 1, 1, 1}, []int{1, 1, 1, 0}, 1, frac(3, 4)},
		{[]int{1, 1, 0, 0}, []int{0, 1, 1, 0}, 2, frac(1, 4)},
		{[]int{1, 1, 1, 1}, []int{4, 3, 2, 1}, 1, frac(4, 5)},
		{[]int{0, 0, 0, 5}, []int{1, 1, 1, 1}, 6, frac(1, 4096)},
	} {
		if f, err := Errors(c.p, c.q, c.n); f != c.want || err != nil {
			t.Error(c, f, err)
		}
	}
}

func TestErrorsBound(t *testing.T) {
	for _, c := range []struct {
		p, q []int
		n    int
		want api.Frac
	}{
		{[]int{513, 1535}, []int{393, 1655}, 6, frac(3954539812608584779, 1<<62)},
		{[]int{1535, 0, 513}, []int{1655, 0, 393}, 6, frac(3954539812608584779, 1<<62)},
		{[]int{51, 1997}, []int{1151, 897}, 6, api.Frac{}}, // over 1 << 63
		{[]int{1, 0}, []int{1, 4095}, 5, frac(1, 1<<60)},
		{[]int{1, 0}, []int{1, 4095}, 6, api.Frac{}},
		{[]int{1, 4095}, []int{1, 4095}, 6, frac(1, 1)},
		{[]int{4095, 1}, []int{1, 4095}, 2, frac(1, 2048)},
		{[]int{4095, 1}, []int{2, 4093}, 6, api.Frac{}},
	} {
		var wantErr error
		if c.want == (api.Frac{}) {
			wantErr = api.ErrBound
		}
		if f, err := Errors(c.p, c.q, c.n); f != c.want || err != wantErr {
			t.Error(c, f, err)
		}
	}
}

func TestErrorsRefuses(t *testing.T) {
	most, least, even := math.MaxInt, math.MinInt, []int{1, 1}
	for _, c := range []struct {
		p, q []int
		n    int
		err  error
	}{
		{nil, even, 0, api.ErrShape},
		{even, nil, 0, api.ErrShape},
		{nil, nil, 0, api.ErrShape},
		{[]int{0, 0}, even, 0, api.ErrShape},
		{even, []int{0, 0}, 1, api.ErrShape},
		{[]int{2, -1}, even, 1, api.ErrShape},
		{even, []int{least, most}, 1, api.ErrShape},
		{[]int{4096, 1}, even, 1, api.ErrBound},
		{even, []int{most, most}, 1, api.ErrBound},
		{many(17, 1), even, 1, api.ErrBound},
		{[]int{1}, even, 1, api.ErrShape},
		{even, []int{1}, 1, api.ErrShape},
		{even, []int{1, 1, 0}, 1, api.ErrShape},
		{many(5, 1), many(4, 1), 1, api.ErrShape},
		{even, even, -1, api.ErrBound},
		{even, even, 7, api.ErrBound},
		{even, even, least, api.ErrBound},
		{even, even, most, api.ErrBound},
		{many(5, 1), many(5, 1), 0, api.ErrBound},
		{[]int{1, 1, 0, 0, 0}, []int{1, 1, 0, 0, 0}, 0, api.ErrBound},
		{many(16, 1), many(16, 1), 6, api.ErrBound},
		// Errors in their order: of p, of q, of both, of what else there is.
		{[]int{-1}, []int{4097}, 7, api.ErrShape},
		{[]int{4097}, []int{-1}, 7, api.ErrBound},
		{many(17, 1), nil, -1, api.ErrBound},
		{many(5, 1), nil, 7, api.ErrShape},
		{many(5, 1), many(6, 1), 7, api.ErrShape},
		{[]int{1}, even, 7, api.ErrShape},
		{[]int{1}, even, -1, api.ErrShape},
	} {
		if f, err := Errors(c.p, c.q, c.n); f != (api.Frac{}) || err != c.err {
			t.Error(c, f, err)
		}
	}
}
