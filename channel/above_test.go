package channel

import (
	"math"
	"math/rand"
	"testing"

	"demon/api"
)

// P81

func TestAbove(t *testing.T) {
	for _, x := range []struct {
		c    [][]int
		q    []int
		want string
		at   int
	}{
		{[][]int{{1, 1}, {3, 1}}, []int{1, 1}, "-log 2 + 3/4 log 3", 1},
		{[][]int{{3, 1}, {1, 1}}, []int{1, 1}, "-log 2 + 3/4 log 3", 0},
		// Of rows that are as far the first one is told.
		{[][]int{{1, 1}, {3, 1}, {1, 3}, {6, 2}}, []int{1, 1}, "-log 2 + 3/4 log 3", 1},
		{[][]int{{1, 2}, {2, 4}}, []int{5, 10}, "0", 0},
		{[][]int{{9}}, []int{4096}, "0", 0},
		{clearOne(16), many(16, 256), "4 log 2", 0},
		{clearOne(3), []int{2, 1, 1}, "2 log 2", 1},
		{clearOne(3), []int{1, 2, 1}, "2 log 2", 0},
		{clearOne(2), []int{4095, 1}, "12 log 2", 1},
		// What no row has may have no chance.
		{[][]int{{1, 0}, {2, 0}}, []int{3, 0}, "0", 0},
		{[][]int{{1, 2, 1}, {2, 1, 1}, {1, 1, 2}}, []int{1, 1, 2}, "1/4 log 2", 0},
		{[][]int{{1, 0, 1}, {1, 0, 0}}, []int{1, 0, 1}, "log 2", 1},
		{[][]int{{1, 2, 1}, {2, 1, 1}, {2, 2, 0}}, []int{1, 1, 2}, "log 2", 2},
		{append(rowsOf(15, []int{1, 1}), []int{1, 3}), []int{2, 2}, "-log 2 + 3/4 log 3", 15},
	} {
		a, at, err := Above(x.c, x.q)
		if got := text(t, a, err); got != x.want || at != x.at {
			t.Error(x, got, at)
		}
	}
}

func checkAboveRefused(t *testing.T, c [][]int, q []int, want error) {
	t.Helper()
	if a, at, err := Above(c, q); !sameLog(a, api.Log{}) || at != 0 || err != want {
		t.Error(c, q, a, at, err, want)
	}
}

// far: divergences of these two rows from equal weights have a difference without a sign.
func far() [][]int { return [][]int{{100, 151}, {111, 130}} }

func TestAboveRefuses(t *testing.T) {
	two := [][]int{{3, 1}, {1, 1}}
	for _, x := range []struct {
		c   [][]int
		q   []int
		err error
	}{
		{two, nil, api.ErrShape},
		{two, []int{0, 0}, api.ErrShape},
		{two, []int{1, -1}, api.ErrShape},
		{two, []int{0, 4097}, api.ErrBound},
		{two, []int{math.MaxInt, math.MaxInt}, api.ErrBound},
		{two, many(17, 0), api.ErrBound},
		{two, []int{1}, api.ErrShape},
		{two, []int{1, 0, 0}, api.ErrShape},
		{[][]int{{1, 1}}, []int{1, 0}, api.ErrZero},
		{two, []int{0, 1}, api.ErrZero},
		{[][]int{{1, 0}, {1, 0}, {1, 1}}, []int{1, 0}, api.ErrZero},
		{append(rowsOf(15, []int{1, 0}), []int{0, 1}), []int{1, 0}, api.ErrZero},
		{far(), []int{1, 1}, api.ErrBound},
		{append(far(), []int{1, 1}), []int{1, 1}, api.ErrBound},
		// Divergences come ahead of comparing: here the last row has none.
		{[][]int{{100, 151, 0}, {111, 130, 0}, {0, 0, 1}}, []int{1, 1, 0}, api.ErrZero},
	} {
		checkAboveRefused(t, x.c, x.q, x.err)
	}
	for _, c := range wrongChannels() {
		for _, q := range [][]int{nil, {1}, {-1}, {4097}, many(17, 1), {1, 0}} {
			checkAboveRefused(t, c.c, q, c.err)
		}
	}
}

// Each row is compared with the greatest one ahead of it, and with no other: so the order of rows tells whether there is a sign.
func TestAboveInOrder(t *testing.T) {
	near, top := far(), []int{1, 0}
	if a, at, err := Above([][]int{top, near[0], near[1]}, []int{1, 1}); text(t, a, err) != "log 2" || at != 0 {
		t.Error(a, at, err)
	}
	if a, at, err := Above([][]int{near[0], top, near[1]}, []int{1, 1}); text(t, a, err) != "log 2" || at != 1 {
		t.Error(a, at, err)
	}
	checkAboveRefused(t, [][]int{near[0], near[1], top}, []int{1, 1}, api.ErrBound)
}

// checkAbove: as the document's words have it, chance by chance; it tells the error.
func checkAbove(t *testing.T, c [][]int, q []int) error {
	t.Helper()
	a, at, err := Above(c, q)
	want, place, bad := wantAbove(c, q)
	if bad != nil {
		if err != bad || at != 0 || !sameLog(a, api.Log{}) {
			t.Error(c, q, a, at, err, bad)
		}
	} else if err != nil || at != place || !want.is(a) {
		t.Error(c, q, a, at, err, place)
	}
	return bad
}

func TestSmallAbove(t *testing.T) {
	for _, size := range []struct{ rows, columns, most int }{{1, 1, 5}, {1, 3, 4}, {2, 1, 4}, {2, 2, 4}, {3, 2, 2}, {2, 3, 1}, {3, 3, 1}} {
		lists := allWeights(size.columns, 2)
		eachChannel(size.rows, size.columns, size.most, func(c [][]int) {
			for _, q := range lists {
				checkAbove(t, c, q)
			}
		})
	}
}

func TestSomeAbove(t *testing.T) {
	r := rand.New(rand.NewSource(81))
	count := map[error]int{}
	for range 3000 {
		columns := someSize(r)
		c, q := someChannel(r, someSize(r), columns), someWeights(r, columns, []int{3, 64, 4096 - columns}[r.Intn(3)])
		if r.Intn(4) > 0 {
			for k := range q {
				q[k]++
			}
		}
		count[checkAbove(t, c, q)]++
	}
	if count[nil] < 500 || count[api.ErrZero] < 100 || count[api.ErrBound] < 100 {
		t.Error(count)
	}
}
