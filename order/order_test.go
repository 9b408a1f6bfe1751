package order

import (
	"math"
	"math/rand"
	"testing"

	"demon/api"
)

// P150

func TestAbove(t *testing.T) {
	for _, x := range []struct {
		p, q []int
		want bool
	}{
		{[]int{0}, []int{0}, true},
		{[]int{4096}, []int{4096}, true},
		{[]int{4, 0}, []int{2, 2}, true},
		{[]int{0, 4}, []int{2, 2}, true},
		{[]int{2, 2}, []int{4, 0}, false},
		{[]int{2, 2}, []int{0, 4}, false},
		{[]int{1, 3}, []int{3, 1}, true},
		{[]int{0, 0, 0}, []int{0, 0, 0}, true},
		{[]int{3, 3, 0}, []int{4, 1, 1}, false}, // neither is above the other
		{[]int{4, 1, 1}, []int{3, 3, 0}, false},
		{[]int{1, 4, 1}, []int{2, 2, 2}, true},
		{[]int{6, 0, 0}, []int{1, 2, 3}, true},
		{[]int{5, 5, 1, 1}, []int{5, 4, 3, 0}, false}, // only three of them tell
		{[]int{5, 5, 1, 1}, []int{5, 4, 2, 1}, true},
		{append([]int{4096}, many(15, 0)...), many(16, 256), true},
		{many(16, 256), append(many(15, 0), 4096), false},
		{many(16, 4096), many(16, 4096), true},
		{append(many(8, 4096), many(8, 0)...), many(16, 2048), true},
		{many(16, 2048), append(many(8, 4096), many(8, 0)...), false},
	} {
		if got, err := Above(x.p, x.q); got != x.want || err != nil {
			t.Error(x, got, err)
		}
	}
}

type wrongPair struct {
	p, q []int
	err  error
}

func noNumbers() []int {
	return []int{math.MinInt, math.MinInt32, -4096, -2, -1, 4097, 4098, 1 << 32, 1 << 62, math.MaxInt}
}

// wrongPairs are refused by all that take two lists.
func wrongPairs() []wrongPair {
	out := []wrongPair{
		{nil, nil, api.ErrShape},
		{[]int{}, nil, api.ErrShape},
		{nil, []int{0}, api.ErrShape},
		{[]int{0}, []int{}, api.ErrShape},
		{[]int{1}, []int{1, 0}, api.ErrShape},
		{[]int{1, 0}, []int{1}, api.ErrShape},
		{many(16, 0), many(15, 0), api.ErrShape},
		{[]int{1}, []int{2}, api.ErrShape},
		{[]int{2}, []int{1}, api.ErrShape},
		{[]int{2, 1}, []int{2, 2}, api.ErrShape},
		{many(16, 4096), append(many(15, 4096), 4095), api.ErrShape},
		{many(17, 0), nil, api.ErrBound},
		{nil, many(17, 0), api.ErrBound},
		{many(17, 0), many(17, 0), api.ErrBound},
		{many(17, 1), many(16, 1), api.ErrBound},
		{many(16, 1), many(17, 1), api.ErrBound},
		{many(100000, 1), []int{1}, api.ErrBound},
		// Too many come ahead of a wrong shape.
		{many(17, -1), []int{1}, api.ErrBound},
		{[]int{-1}, many(17, 4097), api.ErrBound},
		{[]int{-1, 2}, []int{1, 0}, api.ErrShape},
		{[]int{1, 0}, []int{-1, 2}, api.ErrShape},
		{[]int{4097, 0}, []int{4096, 1}, api.ErrShape},
		{[]int{4096, 1}, []int{0, 4097}, api.ErrShape},
		{[]int{-1, -1}, []int{-1, -1}, api.ErrShape},
		// Sums that would be the same, if they had no more than 64 bits.
		{[]int{math.MaxInt, math.MaxInt, 2}, []int{0, 0, 0}, api.ErrShape},
		{[]int{0, 0}, []int{math.MinInt, math.MinInt}, api.ErrShape},
		{[]int{4096, math.MinInt, math.MinInt}, []int{4096, 0, 0}, api.ErrShape},
	}
	for _, n := range noNumbers() {
		for _, at := range []int{0, 1, 15} {
			l := many(16, 1)
			l[at] = n
			out = append(out, wrongPair{l, l, api.ErrShape}, wrongPair{l, many(16, 1), api.ErrShape}, wrongPair{many(16, 1), l, api.ErrShape})
		}
	}
	return out
}

func TestAboveRefuses(t *testing.T) {
	for _, x := range wrongPairs() {
		if got, err := Above(x.p, x.q); got || err != x.err {
			t.Error(x, got, err)
		}
	}
}

// checkAbove tells what was answered.
func checkAbove(t *testing.T, p, q []int, want bool) bool {
	t.Helper()
	got, err := Above(p, q)
	if sumOf(p) != sumOf(q) {
		if got || err != api.ErrShape {
			t.Error(p, q, got, err)
		}
		return false
	}
	if got != want || err != nil {
		t.Error(p, q, got, err)
	}
	return got
}

func TestAllAbove(t *testing.T) {
	for length, most := range map[int]int{1: 6, 2: 6, 3: 4, 4: 2} {
		rows := allRows(length, most)
		for _, p := range rows {
			for _, q := range rows {
				checkAbove(t, p, q, wantAbove(p, q))
			}
		}
	}
}

func TestSomeAbove(t *testing.T) {
	r := rand.New(rand.NewSource(150))
	yes, no := 0, 0
	for k := range 20000 {
		p := someRow(r, 1+r.Intn(16), []int{2, 9, 100, 4096}[k%4])
		q := another(r, p)
		want := wantAboveLong(p, q)
		if len(p) < 8 && want != wantAbove(p, q) {
			t.Error(p, q, want)
		}
		if checkAbove(t, p, q, want) {
			yes++
		} else {
			no++
		}
		// The order of numbers is nothing to it.
		checkAbove(t, shuffled(r, p), shuffled(r, q), want)
		checkAbove(t, q, p, wantAboveLong(q, p))
	}
	if yes < 5000 || no < 1000 {
		t.Error(yes, no)
	}
}
