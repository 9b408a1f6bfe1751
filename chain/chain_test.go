package chain

// P30 and P31

import (
	"math"
	"slices"
	"testing"

	"demon/api"
)

// square of n rows, all weights alike.
func square(n, x int) [][]int {
	c := make([][]int, n)
	for i := range c {
		for range n {
			c[i] = append(c[i], x)
		}
	}
	return c
}

func TestValid(t *testing.T) {
	const most = api.MaxWeight
	for _, x := range []struct {
		c    [][]int
		want error
	}{
		{[][]int{{1}}, nil},
		{[][]int{{0, 1}, {1, 0}}, nil},
		{square(api.MaxStates, 1), nil},
		{square(api.MaxStates, most/api.MaxStates), nil},
		{[][]int{{most}}, nil},
		{[][]int{{most - 1, 1}, {0, most}}, nil},

		{square(api.MaxStates+1, 1), api.ErrBound},
		{make([][]int, api.MaxStates+1), api.ErrBound},
		{make([][]int, 100000), api.ErrBound},

		{nil, api.ErrShape},
		{[][]int{}, api.ErrShape},
		{make([][]int, api.MaxStates), api.ErrShape},
		{[][]int{nil}, api.ErrShape},
		{[][]int{{1, 1}}, api.ErrShape},
		{[][]int{{1}, {1}}, api.ErrShape},
		{[][]int{{1, 1}, {1}}, api.ErrShape},
		{[][]int{{1, 1}, {1, 1, 1}}, api.ErrShape},
		{[][]int{{1, 1}, slices.Repeat([]int{1}, api.MaxSize+1)}, api.ErrShape},
		{[][]int{{1, 1}, {2, -1}}, api.ErrShape},
		{[][]int{{math.MinInt}}, api.ErrShape},
		{[][]int{{1, 1}, {0, 0}}, api.ErrShape},
		{[][]int{{0}}, api.ErrShape},

		{[][]int{{most + 1}}, api.ErrBound},
		{[][]int{{most, 1}, {1, 1}}, api.ErrBound},
		{[][]int{{1, 1}, {1, most}}, api.ErrBound},
		{[][]int{{math.MaxInt, math.MaxInt}, {1, 1}}, api.ErrBound},
		{square(api.MaxStates, most/api.MaxStates+1), api.ErrBound},

		// shapes of all rows come ahead of bounds
		{[][]int{{most + 1, 0}, {0, 0}}, api.ErrShape},
		{[][]int{{most + 1, 0}, {1, -1}}, api.ErrShape},
		{[][]int{{most, most}, {1}}, api.ErrShape},
		{[][]int{{most + 1, -1}, {1, 1}}, api.ErrShape},
	} {
		if err := Valid(x.c); err != x.want {
			t.Error(x.c, err, "want", x.want)
		}
	}
}

func checkClasses(t *testing.T, c [][]int) {
	t.Helper()
	if l, err := Classes(c); err != nil || !slices.Equal(l, wantClasses(c)) {
		t.Error(c, l, err, "want", wantClasses(c))
	}
	if l, err := Closed(c); err != nil || !slices.Equal(l, wantClosed(c)) {
		t.Error(c, l, err, "want", wantClosed(c))
	}
	for i := range c {
		if n, err := Period(c, i); err != nil || n != wantPeriod(c, i) {
			t.Error(c, i, n, err, "want", wantPeriod(c, i))
		}
	}
}

func TestClasses(t *testing.T) {
	for n := 1; n <= 3; n++ {
		for _, c := range allChains(n) {
			checkClasses(t, c)
		}
	}
	for _, c := range someChains(31) {
		checkClasses(t, c)
	}
}

func TestSomeClasses(t *testing.T) {
	c := [][]int{
		{0, 1, 0, 1, 0, 0}, // comes back only by way of 3
		{0, 0, 0, 0, 1, 0},
		{0, 0, 3, 0, 0, 0}, // alone
		{1, 0, 0, 0, 0, 0},
		{0, 1, 0, 0, 0, 0},
		{0, 0, 1, 0, 1, 0}, // never come to
	}
	a, err := Classes(c)
	if err != nil || !slices.Equal(a, []int{0, 1, 2, 0, 1, 5}) {
		t.Error(a, err)
	}
	b, err := Closed(c)
	if err != nil || !slices.Equal(b, []int{1, 2}) {
		t.Error(b, err)
	}
	for i, want := range []int{2, 2, 1, 2, 2, 0} {
		if n, err := Period(c, i); err != nil || n != want {
			t.Error(i, n, err)
		}
	}
}

// Rings, and rings with a way across.
func TestPeriod(t *testing.T) {
	for n := 1; n <= api.MaxStates; n++ {
		c := square(n, 0)
		for i := range n {
			c[i][(i+1)%n] = 2
		}
		for i := range n {
			if p, err := Period(c, i); err != nil || p != n {
				t.Error(n, i, p, err)
			}
		}
		for k := range n {
			c[0][k]++ // back after as many steps as lie between
			want := int(gcd(n, (n-k)%n+1))
			for i := range n {
				if p, err := Period(c, i); err != nil || p != want {
					t.Error(n, k, i, p, err, "want", want)
				}
			}
			c[0][k]--
		}
	}
}

func gcd(a, b int) int {
	for d := a; d > 1; d-- {
		if a%d == 0 && b%d == 0 {
			return d
		}
	}
	return 1
}

func TestNoState(t *testing.T) {
	for _, c := range [][][]int{{{1}}, square(2, 1), square(api.MaxStates, 3)} {
		for _, i := range []int{math.MinInt, -1, len(c), len(c) + 1, math.MaxInt} {
			if n, err := Period(c, i); n != 0 || err != api.ErrShape {
				t.Error(c, i, n, err)
			}
			if l, err := Hitting(c, i); len(l) != 0 || err != api.ErrShape {
				t.Error(c, i, l, err)
			}
			if f, err := Return(c, i); f != (api.Frac{}) || err != api.ErrShape {
				t.Error(c, i, f, err)
			}
		}
	}
	// a bound of the chain comes ahead of a state that is none
	c := square(2, api.MaxWeight)
	_, one := Period(c, -1)
	_, two := Hitting(c, -1)
	_, three := Return(c, -1)
	if one != api.ErrBound || two != api.ErrBound || three != api.ErrBound {
		t.Error(one, two, three)
	}
}
