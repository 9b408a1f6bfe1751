package channel

import (
	"math/rand"
	"slices"
	"testing"

	"demon/api"
)

// P82

func TestEven(t *testing.T) {
	for _, x := range []struct {
		c    [][]int
		want string // "": it is not even
	}{
		{[][]int{{3, 1}, {1, 3}}, "-log 2 + 3/4 log 3"},
		{[][]int{{6, 2}, {1, 3}}, "-log 2 + 3/4 log 3"},
		{[][]int{{2, 1, 1}, {1, 2, 1}, {1, 1, 2}}, "-3/2 log 2 + log 3"},
		{[][]int{{2, 1, 1}, {2, 4, 2}, {64, 64, 128}}, "-3/2 log 2 + log 3"},
		{[][]int{{9}}, "0"},
		{[][]int{{1}, {256}}, "0"},
		{[][]int{{1, 1}}, "0"},
		{[][]int{many(16, 16)}, "0"},
		{[][]int{{1, 1}, {7, 7}, {3, 3}}, "0"},
		{clearOne(2), "log 2"},
		{clearOne(3), "log 3"},
		{clearOne(16), "4 log 2"},
		{[][]int{{1, 0}, {0, 9}}, "log 2"},
		{append(clearOne(3), clearOne(3)...), "log 3"},
		{[][]int{{1, 1, 0, 0}, {0, 0, 1, 1}}, "log 2"},
		{[][]int{{1, 1, 2, 2}, {2, 2, 1, 1}}, "5/3 log 2 - log 3"},
		{[][]int{{1, 2, 3}, {2, 3, 1}, {3, 1, 2}}, "-2/3 log 2 + 1/2 log 3"},
		{turned(16, with(many(16, 0), 0, 256)), "4 log 2"},
		// Rows of other chances.
		{[][]int{{1, 0}, {1, 1}}, ""},
		{[][]int{{3, 1}, {1, 2}}, ""},
		{[][]int{{255, 1}, {1, 254}}, ""},
		{[][]int{{1, 3}, {2, 6}, {3, 1}, {6, 3}}, ""},
		// All columns have one sum, rows are of other chances.
		{[][]int{{3, 1}, {1, 3}, {1, 1}}, ""},
		{[][]int{{2, 2, 2}, {4, 1, 1}, {0, 3, 3}}, ""},
		{[][]int{{4, 0}, {0, 4}, {3, 1}, {1, 3}}, ""},
		// As often as they are there: 1, 1, 2 is not 1, 2, 2.
		{[][]int{{1, 1, 2, 2}, {1, 1, 1, 3}}, ""},
		{[][]int{{1, 1, 2}, {1, 2, 2}}, ""},
		{[][]int{{2, 2, 1, 0}, {1, 1, 3, 0}, {0, 0, 0, 5}}, ""},
		// Columns of other sums, rows of the same chances.
		{[][]int{{1, 2}}, ""},
		{[][]int{{1, 0}}, ""},
		{[][]int{{1, 1, 0}, {0, 1, 1}}, ""},
		{rowsOf(2, []int{3, 1}), ""},
		{[][]int{{1, 2, 3}, {3, 2, 1}, {2, 1, 3}}, ""},
		{[][]int{{3, 1}, {1, 3}, {3, 1}}, ""},
		// Columns of weights have one sum, those of chances have not; and the other way round.
		{[][]int{{1, 3}, {3, 1}, {2, 6}, {1, 3}}, ""},
		{[][]int{{1, 3}, {2, 6}, {6, 2}, {3, 1}, {3, 1}, {1, 3}}, "-log 2 + 3/4 log 3"},
	} {
		even, err := Even(x.c)
		if even != (x.want != "") || err != nil {
			t.Error(x, even, err)
		}
		a, err := Capacity(x.c)
		if x.want == "" {
			if err != api.ErrKind || !sameLog(a, api.Log{}) {
				t.Error(x, a, err)
			}
			continue
		}
		if got := text(t, a, err); got != x.want {
			t.Error(x, got)
		}
	}
}

func TestEvenRefuses(t *testing.T) {
	for _, c := range wrongChannels() {
		if even, err := Even(c.c); even || err != c.err {
			t.Error(c, even, err)
		}
		if a, err := Capacity(c.c); !sameLog(a, api.Log{}) || err != c.err {
			t.Error(c, a, err)
		}
	}
}

// checkEven: Even and Capacity are as the document's words have it, chance by chance.
func checkEven(t *testing.T, c [][]int) bool {
	t.Helper()
	even, err := Even(c)
	a, bad := Capacity(c)
	if even != wantEven(c) || err != nil {
		t.Error(c, even, err)
	}
	if even && (bad != nil || !wantCapacity(c).is(a)) || !even && (bad != api.ErrKind || !sameLog(a, api.Log{})) {
		t.Error(c, a, bad)
	}
	return even
}

func TestSmallEven(t *testing.T) {
	for _, size := range []struct{ rows, columns, most, even int }{{1, 1, 9, 9}, {1, 3, 6, 6}, {3, 1, 4, 64}, {2, 2, 8, 0}, {3, 2, 3, 0}, {2, 3, 4, 0}, {2, 4, 2, 0}, {4, 2, 2, 0}, {3, 3, 2, 0}} {
		even := 0
		eachChannel(size.rows, size.columns, size.most, func(c [][]int) {
			if checkEven(t, c) {
				even++
			}
		})
		if even == 0 || size.even != 0 && even != size.even {
			t.Error(size, even)
		}
	}
}

// someEven: rows that are turned on and on, each times a number, in some order; some have more rows than columns.
func someEven(r *rand.Rand) [][]int {
	w := someWeights(r, someSize(r), 1+r.Intn(256))
	rounds := 1
	if len(w) <= 8 {
		rounds += r.Intn(16 / len(w))
	}
	c := turned(rounds*len(w), w)
	for _, row := range c {
		times := 1 + r.Intn(256/sumOf(w))
		for k := range row {
			row[k] *= times
		}
	}
	r.Shuffle(len(c), func(i, k int) { c[i], c[k] = c[k], c[i] })
	return c
}

func TestSomeEven(t *testing.T) {
	r := rand.New(rand.NewSource(82))
	for range 1500 {
		c := someEven(r)
		if !checkEven(t, c) {
			t.Error(c)
		}
		// One change makes it uneven, as a rule; the oracle tells.
		row := c[r.Intn(len(c))]
		switch k := r.Intn(len(row)); {
		case r.Intn(2) > 0:
			slices.Sort(row)
		case sumOf(row) < 256:
			row[k]++
		case row[k] > 0 && row[k] < 256:
			row[k]--
		}
		checkEven(t, c)
		checkEven(t, someChannel(r, someSize(r), someSize(r)))
	}
}
