package secret

import (
	"math"
	"math/rand"
	"slices"
	"testing"

	"demon/api"
)

// noModuli: no primes, or above the bound.
func noModuli() []int {
	return []int{math.MinInt, -997, -7, -2, -1, 0, 1, 4, 6, 8, 9, 15, 25, 49, 91, 121, 341, 561, 961, 987, 989, 995, 996, 998, 999, 1000, 1009, 1013, 7919, 2147483647, 1<<61 - 1, math.MaxInt}
}

// P102

func TestShare(t *testing.T) {
	for _, x := range []struct {
		p     int
		coefs []int
		n     int
		want  []int
	}{
		{11, []int{7, 3, 1}, 5, []int{0, 6, 3, 2, 3}},
		{2, []int{0}, 1, []int{0}},
		{2, []int{1, 1}, 1, []int{0}},
		{2, many(12, 1), 1, []int{0}},
		{3, []int{2, 1}, 2, []int{0, 1}},
		{5, []int{4}, 4, []int{4, 4, 4, 4}},
		{5, []int{0, 0, 1}, 4, []int{1, 4, 4, 1}},
		{5, []int{0, 0, 0, 0, 3}, 4, []int{3, 3, 3, 3}},
		{7, []int{3, 0, 0}, 1, []int{3}},
		{23, []int{0, 1}, 22, []int{1, 2, 3, 4, 5, 6, 7, 8, 9, 10, 11, 12, 13, 14, 15, 16, 17, 18, 19, 20, 21, 22}},
		{29, []int{28, 28}, 24, []int{27, 26, 25, 24, 23, 22, 21, 20, 19, 18, 17, 16, 15, 14, 13, 12, 11, 10, 9, 8, 7, 6, 5, 4}},
		{997, []int{0, 0, 0, 1}, 12, []int{1, 8, 27, 64, 125, 216, 343, 512, 729, 3, 334, 731}},
		{997, []int{996, 996}, 3, []int{995, 994, 993}},
	} {
		if l, err := Share(x.p, x.coefs, x.n); !slices.Equal(l, x.want) || err != nil {
			t.Error(x, l, err)
		}
	}
}

type shareCase struct {
	p     int
	coefs []int
	n     int
	err   error
}

func wrongShares() []shareCase {
	out := []shareCase{
		{2, []int{1}, 0, api.ErrBound},
		{2, []int{1}, 2, api.ErrBound},
		{5, []int{1}, 5, api.ErrBound},
		{5, []int{1}, -1, api.ErrBound},
		{5, []int{1}, math.MinInt, api.ErrBound},
		{5, []int{1}, math.MaxInt, api.ErrBound},
		{23, []int{1}, 23, api.ErrBound},
		{23, []int{1}, 24, api.ErrBound},
		{29, []int{1}, 25, api.ErrBound},
		{97, []int{1}, 25, api.ErrBound},
		{997, []int{1}, 996, api.ErrBound},
		{5, nil, 1, api.ErrBound},
		{5, []int{}, 1, api.ErrBound},
		{5, many(13, 1), 1, api.ErrBound},
		{997, many(100000, 1), 24, api.ErrBound},
		{5, []int{5}, 1, api.ErrShape},
		{5, []int{-1}, 1, api.ErrShape},
		{2, []int{2}, 1, api.ErrShape},
		{5, []int{1, 2, 3, 4, 5}, 4, api.ErrShape},
		{997, with(many(12, 996), 11, 997), 24, api.ErrShape},
		{997, with(many(12, 0), 6, -1), 24, api.ErrShape},
		{997, []int{math.MaxInt}, 24, api.ErrShape},
		{997, []int{0, math.MinInt}, 24, api.ErrShape},
		// Bounds come ahead of shapes.
		{5, []int{5}, 5, api.ErrBound},
		{5, many(13, -1), 1, api.ErrBound},
	}
	for _, p := range noModuli() {
		out = append(out, shareCase{p, []int{0}, 1, api.ErrKind}, shareCase{p, nil, 0, api.ErrKind}, shareCase{p, []int{-1}, 1, api.ErrKind})
	}
	return out
}

func TestWrongShares(t *testing.T) {
	for _, x := range wrongShares() {
		if l, err := Share(x.p, x.coefs, x.n); len(l) != 0 || err != x.err {
			t.Error(x, l, err)
		}
	}
}

func checkShares(t *testing.T, p int, coefs []int, n int) {
	t.Helper()
	if l, err := Share(p, coefs, n); !slices.Equal(l, wantShares(p, coefs, n)) || err != nil {
		t.Error(p, coefs, n, l, err)
	}
}

func TestSomeShares(t *testing.T) {
	for _, p := range []int{2, 3, 5} {
		for length := 1; length <= 4; length++ {
			eachList(length, p, func(coefs []int) {
				for n := 1; n < p; n++ {
					checkShares(t, p, coefs, n)
				}
			})
		}
	}
	r := rand.New(rand.NewSource(102))
	for _, p := range primes() {
		for range 20 {
			checkShares(t, p, someElements(r, p, 1+r.Intn(12)), 1+r.Intn(min(24, p-1)))
		}
		checkShares(t, p, many(12, p-1), min(24, p-1))
	}
}

// Only the primes up to the bound are right.
func TestAllModuli(t *testing.T) {
	all := primes()
	for p := -10; p <= 2000; p++ {
		var want error
		if !slices.Contains(all, p) {
			want = api.ErrKind
		}
		if _, err := Share(p, []int{1}, 1); err != want {
			t.Error(p, err)
		}
		if _, err := Join(p, []int{1}, []int{1}); err != want {
			t.Error(p, err)
		}
	}
	if len(all) != 168 {
		t.Error(all)
	}
}

// P103

func TestJoin(t *testing.T) {
	for _, x := range []struct {
		p          int
		at, values []int
		want       int
	}{
		{11, []int{1, 2, 3}, []int{0, 6, 3}, 7},
		{11, []int{5, 2, 4}, []int{3, 6, 2}, 7},
		{11, []int{4, 5, 2, 1, 3}, []int{2, 3, 6, 0, 3}, 7},
		{11, []int{1, 2}, []int{0, 6}, 5},
		{11, []int{10}, []int{4}, 4},
		{2, []int{1}, []int{1}, 1},
		{2, []int{1}, []int{0}, 0},
		{3, []int{2, 1}, []int{1, 0}, 2},
		{3, []int{1, 2}, []int{2, 2}, 2},
		{997, []int{1, 2}, []int{995, 994}, 996},
		{997, []int{996, 1}, []int{996, 1}, 0},
		{13, []int{1, 2, 3, 4, 5, 6, 7, 8, 9, 10, 11, 12}, []int{1, 2, 3, 4, 5, 6, 7, 8, 9, 10, 11, 12}, 0},
		{13, []int{1, 2, 3, 4, 5, 6, 7, 8, 9, 10, 11, 12}, many(12, 9), 9},
	} {
		if s, err := Join(x.p, x.at, x.values); s != x.want || err != nil {
			t.Error(x, s, err)
		}
	}
}

type joinCase struct {
	p          int
	at, values []int
	err        error
}

func wrongJoins() []joinCase {
	out := []joinCase{
		{5, nil, nil, api.ErrBound},
		{5, []int{}, []int{1}, api.ErrBound},
		{997, upTo(14)[1:], upTo(14)[1:], api.ErrBound},
		{5, many(13, 0), nil, api.ErrBound},
		{997, make([]int, 100000), nil, api.ErrBound},
		{5, []int{1}, nil, api.ErrShape},
		{5, []int{1}, []int{1, 1}, api.ErrShape},
		{5, []int{1, 2}, []int{1}, api.ErrShape},
		{5, []int{1, 2}, many(13, 1), api.ErrShape},
		{5, []int{0}, []int{1}, api.ErrShape},
		{5, []int{5}, []int{1}, api.ErrShape},
		{5, []int{6}, []int{1}, api.ErrShape},
		{5, []int{-1}, []int{1}, api.ErrShape},
		{5, []int{1, 2, math.MinInt}, []int{1, 1, 1}, api.ErrShape},
		{5, []int{1, 2, math.MaxInt}, []int{1, 1, 1}, api.ErrShape},
		{2, []int{2}, []int{1}, api.ErrShape},
		{997, []int{997}, []int{1}, api.ErrShape},
		{5, []int{1}, []int{5}, api.ErrShape},
		{5, []int{1}, []int{-1}, api.ErrShape},
		{5, []int{1, 2, 3}, []int{0, 4, 5}, api.ErrShape},
		{997, []int{1, 2}, []int{math.MinInt, 0}, api.ErrShape},
		{997, []int{1, 2}, []int{0, math.MaxInt}, api.ErrShape},
		// A place twice, also with one value.
		{5, []int{1, 1}, []int{1, 1}, api.ErrShape},
		{5, []int{1, 1}, []int{1, 2}, api.ErrShape},
		{5, []int{2, 3, 4, 2}, []int{0, 0, 0, 0}, api.ErrShape},
		{2, []int{1, 1}, []int{0, 0}, api.ErrShape},
		{7, []int{1, 2, 3, 4, 5, 6, 6}, many(7, 0), api.ErrShape},
		{997, many(12, 5), many(12, 5), api.ErrShape},
	}
	for _, p := range noModuli() {
		out = append(out, joinCase{p, []int{1}, []int{0}, api.ErrKind}, joinCase{p, nil, nil, api.ErrKind}, joinCase{p, []int{0, 0}, []int{-1}, api.ErrKind})
	}
	return out
}

func TestWrongJoins(t *testing.T) {
	for _, x := range wrongJoins() {
		if s, err := Join(x.p, x.at, x.values); s != 0 || err != x.err {
			t.Error(x, s, err)
		}
	}
}

func checkJoin(t *testing.T, p int, at, values, coefs []int) {
	t.Helper()
	if s, err := Join(p, at, values); s != coefs[0] || err != nil {
		t.Error(p, at, values, coefs, s, err)
	}
}

// All places and values of small fields, held against all polynomials.
func TestAllJoins(t *testing.T) {
	for _, p := range []int{2, 3, 5} {
		for n := 1; n < p; n++ {
			for _, at := range rowsOf(n, p) {
				if slices.Contains(at, 0) {
					continue
				}
				if p == 5 && n > 2 && !slices.IsSorted(at) {
					continue // all of them would take long
				}
				eachList(n, p, func(values []int) { checkJoin(t, p, at, values, found(p, at, values)) })
			}
		}
	}
}

func TestSomeJoins(t *testing.T) {
	r := rand.New(rand.NewSource(103))
	for _, p := range primes() {
		for range 10 {
			n := 1 + r.Intn(min(12, p-1))
			at, values := somePlaces(r, p, n), someElements(r, p, n)
			checkJoin(t, p, at, values, solved(p, at, values))
		}
		n := min(12, p-1)
		at := somePlaces(r, p, n)
		checkJoin(t, p, at, many(n, p-1), solved(p, at, many(n, p-1)))
	}
}
