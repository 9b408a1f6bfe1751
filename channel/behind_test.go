package channel

import (
	"math/rand"
	"testing"

	"demon/api"
)

// P83

// pairs of rows, each two with a prime as their sum, that are even together: what all sums divide has 63 bits, and all of it cancels.
func pairs() [][]int {
	var out [][]int
	for _, n := range primes()[:8] {
		out = append(out, []int{1, n - 1}, []int{n - 1, 1})
	}
	return out
}

func TestBehind(t *testing.T) {
	for _, x := range []struct{ a, b, want [][]int }{
		{[][]int{{3, 1}, {1, 1}}, [][]int{{1, 1}, {0, 1}}, [][]int{{3, 5}, {1, 3}}},
		{[][]int{{9}}, [][]int{{256}}, [][]int{{1}}},
		{[][]int{{2, 4}}, clearOne(2), [][]int{{1, 2}}},
		{clearOne(2), [][]int{{2, 4}, {6, 3}}, [][]int{{1, 2}, {2, 1}}},
		{[][]int{{0, 1}, {1, 0}}, [][]int{{1, 2}, {3, 4}}, [][]int{{3, 4}, {1, 2}}},
		{[][]int{{1}, {2}}, [][]int{{4, 0, 6}}, [][]int{{2, 0, 3}, {2, 0, 3}}},
		{[][]int{{1, 1, 1}}, [][]int{{1}, {2}, {3}}, [][]int{{1}}},
		{[][]int{{3, 1}, {1, 3}}, [][]int{{3, 1}, {1, 3}}, [][]int{{5, 3}, {3, 5}}},
		// Rows that are not gone into do not count.
		{[][]int{{1, 0, 1}}, [][]int{{1, 0}, {83, 168}, {1, 1}}, [][]int{{3, 1}}},
		{clearOne(16), sixteen(), sixteen()},
		// Sums up to 256.
		{[][]int{{255, 1}, {1, 1}}, clearOne(2), [][]int{{255, 1}, {1, 1}}},
		{[][]int{{1, 1}}, [][]int{{1, 127}, {128, 0}}, [][]int{{129, 127}}},
		{[][]int{{15, 1}}, [][]int{{15, 1}, {1, 15}}, [][]int{{113, 15}}},
		{[][]int{{15, 1}}, [][]int{{1, 15}, {2, 14}}, [][]int{{17, 239}}},
		{[][]int{{1, 15}}, [][]int{{1, 15}, {16, 0}}, [][]int{{241, 15}}},
		{rowsOf(16, many(16, 16)), rowsOf(16, many(16, 16)), rowsOf(16, many(16, 1))},
		// Long sums that cancel.
		{[][]int{many(16, 1)}, pairs(), [][]int{{1, 1}}},
		{[][]int{{7, 11, 13, 17}}, [][]int{{1, 6}, {3, 8}, {6, 7}, {8, 9}}, [][]int{{3, 5}}},
		{[][]int{{41, 37, 31, 29, 23, 19, 17, 13, 11, 7, 5, 3, 2}}, [][]int{{1, 40}, {2, 35}, {3, 28}, {4, 25}, {5, 18}, {6, 13}, {7, 10}, {8, 5}, {9, 2}, {6, 1}, {4, 1}, {2, 1}, {1, 1}}, [][]int{{29, 90}}},
	} {
		if got, err := Behind(x.a, x.b); !sameTable(got, x.want) || err != nil {
			t.Error(x, got, err)
		}
	}
}

func TestBehindRefuses(t *testing.T) {
	two := [][]int{{3, 1}, {1, 1}}
	for _, x := range []struct {
		a, b [][]int
		err  error
	}{
		{two, [][]int{{1}}, api.ErrShape},
		{two, [][]int{{1, 1}}, api.ErrShape},
		{two, clearOne(3), api.ErrShape},
		{[][]int{{1}, {1}}, two, api.ErrShape},
		{rowsOf(2, many(16, 1)), two, api.ErrShape},
		{[][]int{{15, 2}}, [][]int{{15, 2}, {1, 16}}, api.ErrBound},
		{[][]int{{1, 1}, {255, 1}}, [][]int{{1, 1}, {1, 0}}, api.ErrBound},
		{[][]int{{1, 255}}, [][]int{{1, 1}, {1, 0}}, api.ErrBound},
		{[][]int{{1, 1}}, [][]int{{2, 127}, {129, 0}}, api.ErrBound}, // 258
		{[][]int{many(16, 1)}, sixteen(), api.ErrBound},
		{[][]int{with(many(16, 1), 15, 0)}, pairs(), api.ErrBound},
		{append(clearOne(16)[:15], many(16, 1)), sixteen(), api.ErrBound},
	} {
		if got, err := Behind(x.a, x.b); len(got) != 0 || err != x.err {
			t.Error(x, got, err)
		}
	}
}

// The errors of the first one come ahead of those of the second one.
func TestBehindRefusesChannels(t *testing.T) {
	for _, c := range wrongChannels() {
		for _, b := range [][][]int{nil, {{1}}, {{257}}, {{-1}}, {{1, 1}, {1, 1}}, make([][]int, 17)} {
			if got, err := Behind(c.c, b); len(got) != 0 || err != c.err {
				t.Error(c, b, got, err)
			}
		}
		for _, a := range [][][]int{{{1}}, {{1, 1}}, rowsOf(16, many(16, 1))} {
			if got, err := Behind(a, c.c); len(got) != 0 || err != c.err {
				t.Error(a, c, got, err)
			}
		}
	}
}

// checkBehind: as the document's words have it, chance by chance; it tells whether rows came.
func checkBehind(t *testing.T, a, b [][]int) bool {
	t.Helper()
	got, err := Behind(a, b)
	want := wantRows(wantBehind(a, b))
	if want == nil && (len(got) != 0 || err != api.ErrBound) || want != nil && (!sameTable(got, want) || err != nil || Valid(got) != nil) {
		t.Error(a, b, got, want, err)
	}
	return want != nil
}

func TestSmallBehind(t *testing.T) {
	for _, size := range []struct{ rows, between, columns, most int }{{1, 1, 1, 4}, {1, 2, 1, 3}, {2, 1, 2, 3}, {1, 2, 2, 3}, {2, 2, 2, 2}, {1, 3, 2, 2}, {1, 2, 3, 2}} {
		eachChannel(size.rows, size.between, size.most, func(a [][]int) {
			eachChannel(size.between, size.columns, size.most, func(b [][]int) { checkBehind(t, a, b) })
		})
	}
}

func TestSomeBehind(t *testing.T) {
	r := rand.New(rand.NewSource(83))
	told, refused := 0, 0
	for range 4000 {
		between := someSize(r)
		a, b := someChannel(r, someSize(r), between), someChannel(r, between, someSize(r))
		if r.Intn(3) == 0 {
			// So weights and sums cancel, however unlike the sums are.
			for i := range b {
				if n := a[0][i]; n > 0 {
					b[i] = ofTotal(r, len(b[i]), n)
				}
			}
			a = a[:1]
		}
		if checkBehind(t, a, b) {
			told++
		} else {
			refused++
		}
	}
	if told < 1000 || refused < 300 {
		t.Error(told, refused)
	}
}
