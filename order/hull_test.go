package order

import (
	"math"
	"math/rand"
	"slices"
	"testing"

	"demon/api"
)

// P153

const far = 1000000

func testPoints() []Point { return []Point{{4, 0}, {0, 0}, {2, -2}, {2, 5}, {1, -1}, {3, 1}} }

func TestHull(t *testing.T) {
	for _, x := range []struct {
		l    []Point
		want []int
	}{
		{[]Point{{0, 0}}, []int{0}},
		{[]Point{{far, -far}}, []int{0}},
		{testPoints(), []int{1, 2, 0}},
		{[]Point{{0, 0}, {1, 0}}, []int{0, 1}},
		{[]Point{{1, 0}, {0, 0}}, []int{1, 0}},
		// At one place the lowest, and the first of these.
		{[]Point{{3, 1}, {3, 0}, {3, 2}}, []int{1}},
		{[]Point{{3, 1}, {3, 0}, {3, 0}, {3, 1}}, []int{1}},
		{many(60, Point{7, 7}), []int{0}},
		{[]Point{{0, 1}, {1, 1}, {0, 0}, {1, 0}, {0, 0}, {1, 0}}, []int{2, 3}},
		{[]Point{{0, 0}, {2, 0}, {1, -1}, {1, -2}, {1, -2}}, []int{0, 3, 1}},
		// None between two others in a line, however it leans.
		{[]Point{{0, 0}, {1, 0}, {2, 0}, {3, 0}}, []int{0, 3}},
		{[]Point{{3, 6}, {1, 2}, {0, 0}, {2, 4}}, []int{2, 0}},
		{[]Point{{-3, 6}, {-1, 2}, {0, 0}, {-2, 4}}, []int{0, 2}},
		{[]Point{{0, 2}, {1, 1}, {2, 0}, {3, 0}, {4, 0}, {5, 1}, {6, 2}}, []int{0, 2, 4, 6}},
		// Above the line between two others.
		{[]Point{{0, 0}, {1, 1}, {2, 0}}, []int{0, 2}},
		{[]Point{{0, 0}, {1, -1}, {2, 0}}, []int{0, 1, 2}},
		{[]Point{{0, 5}, {1, 3}, {2, 2}, {3, 2}, {4, 3}, {5, 5}}, []int{0, 1, 2, 3, 4, 5}},
		// One point takes many off again.
		{[]Point{{0, 0}, {1, 1}, {2, 3}, {3, 6}, {4, -1}}, []int{0, 4}},
		{[]Point{{0, -1}, {1, 6}, {2, 3}, {3, 1}, {4, 0}}, []int{0, 4}},
		// As far as may be: a line that is just missed, and one that is just met.
		{[]Point{{-far, far}, {0, 0}, {far, -far}}, []int{0, 2}},
		{[]Point{{-far, far}, {0, -1}, {far, -far}}, []int{0, 1, 2}},
		{[]Point{{-far, far}, {0, 1}, {far, -far}}, []int{0, 2}},
		{[]Point{{-far, -far}, {far, far}, {far, -far}, {-far, far}}, []int{0, 2}},
		{[]Point{{-far, far}, {far - 1, -far}, {far, -far}}, []int{0, 1, 2}},
		{[]Point{{-far, far}, {1 - far, -far}, {far - 1, -far}, {far, far}}, []int{0, 1, 2, 3}},
	} {
		if got, err := Hull(x.l); !slices.Equal(got, x.want) || err != nil {
			t.Error(x, got, err)
		}
	}
}

func TestMix(t *testing.T) {
	l := testPoints()
	for _, x := range []struct {
		l      []Point
		x      int
		energy api.Frac
		a, b   int
	}{
		{l, 0, frac(0, 1), 1, 1},
		{l, 1, frac(-1, 1), 1, 2}, // a point of the line, but not of the hull
		{l, 2, frac(-2, 1), 2, 2},
		{l, 3, frac(-1, 1), 2, 0},
		{l, 4, frac(0, 1), 0, 0},
		{[]Point{{0, 0}, {3, 1}}, 1, frac(1, 3), 0, 1},
		{[]Point{{0, 0}, {3, 1}}, 2, frac(2, 3), 0, 1},
		{[]Point{{0, 0}, {3, -1}}, 1, frac(-1, 3), 0, 1},
		{[]Point{{3, -1}, {0, 0}}, 2, frac(-2, 3), 1, 0},
		{[]Point{{0, 1}, {6, 4}}, 2, frac(2, 1), 0, 1},
		{[]Point{{0, 1}, {6, 4}}, 1, frac(3, 2), 0, 1},
		{[]Point{{-1, -5}, {1, 5}}, 0, frac(0, 1), 0, 1},
		{[]Point{{5, 3}}, 5, frac(3, 1), 0, 0},
		{[]Point{{5, 3}, {5, -3}, {5, -3}}, 5, frac(-3, 1), 1, 1},
		{[]Point{{-far, far}, {far, -far}}, far - 1, frac(1-far, 1), 0, 1},
		{[]Point{{-far, far}, {far, far - 1}}, 1 - far, frac(2*far*far-1, 2*far), 0, 1},
		{[]Point{{-far, -far}, {far, 1 - far}}, far - 1, frac(-2*far*far+2*far-1, 2*far), 0, 1},
		{[]Point{{-far, 0}, {far - 1, 1}}, 0, frac(far, 2*far-1), 0, 1},
	} {
		energy, a, b, err := Mix(x.l, x.x)
		if energy != x.energy || a != x.a || b != x.b || err != nil {
			t.Error(x, energy, a, b, err)
		}
	}
}

func checkMixRefused(t *testing.T, l []Point, x int, want error) {
	t.Helper()
	energy, a, b, err := Mix(l, x)
	if energy != (api.Frac{}) || a != 0 || b != 0 || err != want {
		t.Error(len(l), x, energy, a, b, err)
	}
}

func checkHullRefused(t *testing.T, l []Point, want error) {
	t.Helper()
	if got, err := Hull(l); len(got) > 0 || err != want {
		t.Error(len(l), got, err)
	}
	// Also where x lies left or right of all.
	for _, x := range []int{math.MinInt, -1, 0, 1, math.MaxInt} {
		checkMixRefused(t, l, x, want)
	}
}

func farNumbers() []int {
	return []int{math.MinInt, math.MinInt32, -far - 2, -far - 1, far + 1, far + 2, 1 << 32, 1 << 62, math.MaxInt}
}

func TestHullRefuses(t *testing.T) {
	checkHullRefused(t, nil, api.ErrShape)
	checkHullRefused(t, []Point{}, api.ErrShape)
	checkHullRefused(t, make([]Point, 61), api.ErrBound)
	checkHullRefused(t, make([]Point, 100000), api.ErrBound)
	for _, n := range farNumbers() {
		for _, p := range []Point{{n, 0}, {0, n}, {n, n}, {far, n}, {n, -far}} {
			checkHullRefused(t, []Point{p}, api.ErrShape)
			// Too many come ahead of a wrong shape.
			checkHullRefused(t, many(61, p), api.ErrBound)
			for _, at := range []int{0, 1, 59} {
				l := make([]Point, 60)
				l[at] = p
				checkHullRefused(t, l, api.ErrShape)
			}
		}
	}
	if _, err := Hull(make([]Point, 60)); err != nil {
		t.Error(err)
	}
}

func TestMixRefuses(t *testing.T) {
	for _, x := range []int{math.MinInt, -far - 1, -far, -1, 5, 6, far, far + 1, math.MaxInt} {
		checkMixRefused(t, testPoints(), x, api.ErrNone)
	}
	for _, x := range append(farNumbers(), -far, far) {
		checkMixRefused(t, []Point{{1 - far, 0}, {far - 1, 0}}, x, api.ErrNone)
	}
	for _, x := range farNumbers() {
		checkMixRefused(t, []Point{{-far, 0}, {far, 0}}, x, api.ErrNone)
	}
	checkMixRefused(t, []Point{{5, 0}}, 4, api.ErrNone)
	checkMixRefused(t, []Point{{5, 0}}, 6, api.ErrNone)
}

// checkHull, and Mix at these places; how many points the hull has is told.
func checkHull(t *testing.T, l []Point, places []int) int {
	t.Helper()
	want := wantHull(l)
	got, err := Hull(l)
	if !slices.Equal(got, want) || err != nil {
		t.Fatal(l, got, err, want)
	}
	for _, x := range places {
		wantEnergy, wantA, wantB, ok := wantMix(l, want, x)
		if !ok {
			checkMixRefused(t, l, x, api.ErrNone)
			continue
		}
		energy, a, b, err := Mix(l, x)
		if !told(energy, wantEnergy) || a != wantA || b != wantB || err != nil {
			t.Fatal(l, x, energy, a, b, err, wantEnergy, wantA, wantB)
		}
	}
	return len(want)
}

// Each up to four points of nine, in all orders, and three of twenty.
func TestAllHulls(t *testing.T) {
	for _, c := range []struct{ wide, high, most int }{{3, 3, 4}, {5, 4, 3}, {4, 2, 4}} {
		for length := 1; length <= c.most; length++ {
			eachRow(length, c.wide*c.high-1, func(row []int) {
				var l []Point
				for _, x := range row {
					l = append(l, Point{x % c.wide, x / c.wide})
				}
				checkHull(t, l, []int{-1, 0, 1, 2, c.wide})
			})
		}
	}
}

func TestSomeHulls(t *testing.T) {
	r := rand.New(rand.NewSource(153))
	seen := map[int]int{}
	for range 300 {
		for _, far := range [][2]int{{2, 2}, {4, 40}, {40, 4}, {30, 30}, {1000, 1000}, {1000000, 1000000}, {30, 1000000}, {1000000, 30}} {
			l := somePoints(r, 1+r.Intn(9), far[0], far[1])
			if r.Intn(10) == 0 {
				l = somePoints(r, 1+r.Intn(60), far[0], far[1])
			}
			at := l[r.Intn(len(l))].X
			seen[checkHull(t, l, []int{at, at - 1, at + 1, 0, r.Intn(2*far[0]+1) - far[0]})]++
		}
	}
	for points := 1; points < 8; points++ {
		if seen[points] < 10 {
			t.Error(seen)
		}
	}
}

// Of points that are nearly all on the hull.
func TestBowls(t *testing.T) {
	r := rand.New(rand.NewSource(1531))
	for n := 1; n <= 60; n++ {
		l := bowl(r, n, 0)
		if got := checkHull(t, l, []int{-n - 1, -n, -n + 1, -n + 2, 0, 1, n - 3, n - 2, n - 1}); got != n {
			t.Error(n, got)
		}
		if others := r.Intn(61 - n); others > 0 {
			checkHull(t, bowl(r, n, others), []int{-n, 1 - n, 0, n - 2, n})
		}
	}
}
