package channel

import (
	"math"
	"math/rand"
	"slices"
	"testing"

	"demon/api"
	"demon/dist"
)

type channelCase struct {
	c   [][]int
	err error
}

// wrongChannels: with Valid's errors.
func wrongChannels() []channelCase {
	return []channelCase{
		{nil, api.ErrShape},
		{[][]int{}, api.ErrShape},
		{[][]int{nil}, api.ErrShape},
		{[][]int{{}, nil}, api.ErrShape},
		{[][]int{{1}, {}}, api.ErrShape},
		{[][]int{{}, {1}}, api.ErrShape},
		{[][]int{{1, 2}, {3}}, api.ErrShape},
		{[][]int{{1}, {2, 3}}, api.ErrShape},
		{[][]int{{1, 2}, {3, 4}, {5, 6, 0}}, api.ErrShape},
		{[][]int{{-1}}, api.ErrShape},
		{[][]int{{2, -1}}, api.ErrShape},
		{[][]int{{1, 1}, {math.MinInt, 1}}, api.ErrShape},
		{[][]int{{0}}, api.ErrShape},
		{[][]int{{1, 1}, {0, 0}}, api.ErrShape},
		{[][]int{{0, 0}, {1, 1}}, api.ErrShape},
		{append(rowsOf(15, many(16, 1)), many(16, 0)), api.ErrShape},
		{[][]int{{257}}, api.ErrBound},
		{[][]int{{256, 1}}, api.ErrBound},
		{[][]int{{1, 256}}, api.ErrBound},
		{[][]int{{1, 1}, {128, 129}}, api.ErrBound},
		{[][]int{with(many(16, 16), 15, 17)}, api.ErrBound},
		{[][]int{{2000, 2000}}, api.ErrBound},
		{[][]int{{math.MaxInt, math.MaxInt}}, api.ErrBound},
		{[][]int{{math.MaxInt, math.MaxInt, 2}}, api.ErrBound},
		{[][]int{{1, 1 << 62, 1 << 62, 1 << 62, 1 << 62}}, api.ErrBound},
		{rowsOf(17, []int{1}), api.ErrBound},
		{make([][]int, 17), api.ErrBound},
		{rowsOf(17, []int{-1}), api.ErrBound},
		{[][]int{many(17, 1)}, api.ErrBound},
		{[][]int{{1}, many(17, 1)}, api.ErrBound},
		// Too many are told ahead of shapes, shapes ahead of weights that are too great.
		{[][]int{{-1}, many(17, 0)}, api.ErrBound},
		{[][]int{many(17, -1)}, api.ErrBound},
		{[][]int{{257, 1}, {0, 0}}, api.ErrShape},
		{[][]int{{257, 1}, {1}}, api.ErrShape},
		{[][]int{{257, 1}, {1, -1}}, api.ErrShape},
		{[][]int{{5000, 1}, {1, -1}}, api.ErrShape},
		{[][]int{{257, -1}, {1, 1}}, api.ErrShape},
		{[][]int{{200, 57}, {1, 1}, {0, 0}}, api.ErrShape},
	}
}

func TestValid(t *testing.T) {
	for _, c := range [][][]int{
		{{1}}, {{256}}, {{0, 256}}, {{255, 1}}, {{1, 255}}, {{0, 0, 1}}, {{1}, {2}, {3}}, {{1, 0}, {1, 0}},
		{many(16, 16)}, {with(many(16, 0), 15, 256)}, rowsOf(16, []int{1}), rowsOf(16, []int{256}), rowsOf(16, many(16, 16)), clearOne(16),
	} {
		if err := Valid(c); err != nil {
			t.Error(c, err)
		}
	}
	for _, c := range wrongChannels() {
		if err := Valid(c.c); err != c.err {
			t.Error(c, err)
		}
	}
}

// primes that are the sums of sixteen's rows.
func primes() []int {
	return []int{251, 241, 239, 233, 229, 227, 223, 211, 199, 197, 193, 191, 181, 179, 173, 167}
}

// sixteen rows whose sums are primes: what all of them divide has 122 bits.
func sixteen() [][]int {
	var out [][]int
	for i, n := range primes() {
		out = append(out, []int{i + 1, n - i - 1})
	}
	return out
}

type wrongCase struct {
	p   []int
	c   [][]int
	err error
}

// wrongTables: with Table's errors.
func wrongTables() []wrongCase {
	two := [][]int{{3, 1}, {1, 1}}
	out := []wrongCase{
		{nil, two, api.ErrShape},
		{[]int{}, two, api.ErrShape},
		{[]int{0, 0}, two, api.ErrShape},
		{[]int{1, -1}, two, api.ErrShape},
		{[]int{4097, -1}, two, api.ErrShape},
		{[]int{4096, 1}, two, api.ErrBound},
		{[]int{4097}, two, api.ErrBound},
		{[]int{math.MaxInt, math.MaxInt, 2}, two, api.ErrBound},
		{many(17, 1), two, api.ErrBound},
		{many(17, -1), two, api.ErrBound},
		{[]int{1}, two, api.ErrShape},
		{[]int{1, 1, 0}, two, api.ErrShape},
		{[]int{101}, [][]int{{97, 5}, {3, 88}}, api.ErrShape},
		{[]int{1, 1}, [][]int{{1, 1}}, api.ErrShape},
		{many(16, 1), rowsOf(15, []int{1}), api.ErrShape},
		{[]int{101, 103}, [][]int{{97, 5}, {3, 88}}, api.ErrBound},
		{[]int{1, 16}, rowsOf(2, []int{1, 240}), api.ErrBound}, // 4097
		{[]int{4095, 1}, [][]int{{1, 0}, {1, 1}}, api.ErrBound},
		{[]int{4095, 1}, [][]int{{1, 1}, {1, 0}}, api.ErrBound},
		{many(16, 1), sixteen(), api.ErrBound},
		{many(16, 256), sixteen(), api.ErrBound},
		{with(primes(), 15, 1), sixteen(), api.ErrBound},
	}
	// A channel's errors come ahead of those of what goes in.
	for _, c := range wrongChannels() {
		for _, p := range [][]int{nil, {1}, {-1}, {4097}, many(17, 1), many(len(c.c), 1)} {
			out = append(out, wrongCase{p, c.c, c.err})
		}
	}
	return out
}

// P80

func TestTable(t *testing.T) {
	uneven := turned(16, with(with(many(16, 16), 0, 15), 1, 17))
	for _, x := range []struct {
		p       []int
		c, want [][]int
	}{
		{[]int{1, 1}, [][]int{{3, 1}, {1, 1}}, [][]int{{3, 1}, {2, 2}}},
		{[]int{2, 2}, [][]int{{6, 2}, {5, 5}}, [][]int{{3, 1}, {2, 2}}},
		{[]int{1, 2}, [][]int{{3, 1}, {1, 1}}, [][]int{{3, 1}, {4, 4}}},
		{[]int{4096}, [][]int{{256}}, [][]int{{1}}},
		{[]int{7}, [][]int{{2, 4, 0}}, [][]int{{1, 2, 0}}},
		{[]int{4096}, [][]int{{1, 255}}, [][]int{{1, 255}}},
		{[]int{2, 4}, [][]int{{9}, {11}}, [][]int{{1}, {2}}},
		// What does not go in does not count.
		{[]int{5, 0}, [][]int{{1, 1}, {1, 250}}, [][]int{{1, 1}, {0, 0}}},
		{[]int{0, 5}, [][]int{{1, 250}, {2, 1}}, [][]int{{0, 0}, {2, 1}}},
		{append(many(15, 0), 9), sixteen(), append(rowsOf(15, []int{0, 0}), []int{16, 151})},
		// Weights and sums cancel.
		{[]int{97, 3}, [][]int{{96, 1}, {1, 2}}, [][]int{{96, 1}, {1, 2}}},
		{[]int{194, 6}, [][]int{{96, 1}, {1, 2}}, [][]int{{96, 1}, {1, 2}}},
		{primes(), sixteen(), sixteen()},
		{many(16, 256), rowsOf(16, many(16, 16)), rowsOf(16, many(16, 1))},
		// 4096 together.
		{[]int{1, 15}, rowsOf(2, []int{1, 255}), [][]int{{1, 255}, {15, 3825}}},
		{[]int{4095, 1}, clearOne(2), [][]int{{4095, 0}, {0, 1}}},
		{many(16, 1), uneven, uneven},
	} {
		if got, err := Table(x.p, x.c); !sameTable(got, x.want) || err != nil {
			t.Error(x, got, err)
		}
	}
}

func TestTableRefuses(t *testing.T) {
	for _, c := range wrongTables() {
		if got, err := Table(c.p, c.c); len(got) != 0 || err != c.err {
			t.Error(c, got, err)
		}
		if got, err := Through(c.p, c.c); !sameLog(got, api.Log{}) || err != c.err {
			t.Error(c, got, err)
		}
	}
}

// What is right by itself may still be too much for a table.
func TestValidWith(t *testing.T) {
	seen := 0
	for _, c := range wrongTables() {
		switch err := ValidWith(c.p, c.c); {
		case err == nil && c.err == api.ErrBound && wantValidWith(c.p, c.c):
			seen++
		case err != c.err:
			t.Error(c, err)
		}
	}
	if seen != 7 {
		t.Error(seen)
	}
}

// wantValidWith tells whether a channel and weights are right, each by itself, and as many.
func wantValidWith(p []int, c [][]int) bool {
	return Valid(c) == nil && dist.Valid(p) == nil && len(p) == len(c)
}

func TestThrough(t *testing.T) {
	for _, x := range []struct {
		p    []int
		c    [][]int
		want string
	}{
		{[]int{1, 1}, clearOne(2), "log 2"},
		{[]int{1, 3}, clearOne(2), "2 log 2 - 3/4 log 3"},
		{many(16, 1), clearOne(16), "4 log 2"},
		{[]int{1, 0}, clearOne(2), "0"},
		{[]int{4096}, [][]int{{1, 255}}, "0"},
		{[]int{1, 7}, rowsOf(2, []int{3, 4, 5}), "0"},
		{[]int{1, 7}, [][]int{{3, 4, 5}, {6, 8, 10}}, "0"},
		{[]int{1, 1}, [][]int{{3, 1}, {1, 3}}, "-log 2 + 3/4 log 3"},
		{[]int{2, 2}, [][]int{{6, 2}, {3, 9}}, "-log 2 + 3/4 log 3"},
		{[]int{1, 1}, [][]int{{1, 1}, {1, 0}}, "3/2 log 2 - 3/4 log 3"},
		{[]int{1, 1}, [][]int{{1, 1, 0}, {0, 1, 1}}, "1/2 log 2"},
		{[]int{1, 1, 0}, [][]int{{1, 1, 0}, {0, 1, 1}, {97, 3, 101}}, "1/2 log 2"},
	} {
		a, err := Through(x.p, x.c)
		if got := text(t, a, err); got != x.want {
			t.Error(x, got)
		}
	}
}

// P84

func TestGuess(t *testing.T) {
	for _, x := range []struct {
		p    []int
		c    [][]int
		want []int
		f    api.Frac
	}{
		{[]int{1, 1}, [][]int{{3, 1, 0}, {1, 1, 0}}, []int{0, 1, -1}, api.Frac{Num: 3, Den: 8}},
		{[]int{1, 1}, clearOne(2), []int{0, 1}, api.Frac{Num: 0, Den: 1}},
		{[]int{3, 1}, [][]int{{0, 1}, {1, 0}}, []int{1, 0}, api.Frac{Num: 0, Den: 1}},
		// Of those that are as likely the first one is taken.
		{[]int{1, 1}, rowsOf(2, []int{1, 1}), []int{0, 0}, api.Frac{Num: 1, Den: 2}},
		{[]int{1, 2, 2}, rowsOf(3, []int{1, 3}), []int{1, 1}, api.Frac{Num: 3, Den: 5}},
		{many(16, 1), rowsOf(16, many(16, 1)), many(16, 0), api.Frac{Num: 15, Den: 16}},
		// What goes in rarely is not guessed, though it would make such a symbol likeliest.
		{[]int{9, 1}, [][]int{{2, 1}, {1, 2}}, []int{0, 0}, api.Frac{Num: 1, Den: 10}},
		// Only what does not go in could make such a symbol come out.
		{[]int{1, 0}, clearOne(2), []int{0, -1}, api.Frac{Num: 0, Den: 1}},
		{[]int{0, 1, 0}, [][]int{{1, 1, 1}, {0, 1, 0}, {0, 0, 1}}, []int{-1, 1, -1}, api.Frac{Num: 0, Den: 1}},
		{[]int{7}, [][]int{{0, 2, 3}}, []int{-1, 0, 0}, api.Frac{Num: 0, Den: 1}},
		{[]int{1, 15}, [][]int{{1, 255}, {255, 1}}, []int{1, 0}, api.Frac{Num: 1, Den: 256}},
		{primes(), rowsOf(16, []int{1}), []int{0}, api.Frac{Num: 3083, Den: 3334}},
	} {
		if got, f, err := Guess(x.p, x.c); !slices.Equal(got, x.want) || f != x.f || err != nil {
			t.Error(x, got, f, err)
		}
	}
}

func TestGuessRefuses(t *testing.T) {
	for _, c := range wrongTables() {
		if got, f, err := Guess(c.p, c.c); len(got) != 0 || f != (api.Frac{}) || err != c.err {
			t.Error(c, got, f, err)
		}
	}
}

// checkPair: all that is asked of weights and a channel is as the document's words have it, chance by chance.
func checkPair(t *testing.T, p []int, c [][]int) bool {
	t.Helper()
	table, err := Table(p, c)
	through, bad := Through(p, c)
	guesses, f, worse := Guess(p, c)
	want := wantTable(p, c)
	if want == nil {
		if len(table) != 0 || !sameLog(through, api.Log{}) || len(guesses) != 0 || f != (api.Frac{}) {
			t.Error(p, c, table, through, guesses, f)
		}
		if err != api.ErrBound || bad != api.ErrBound || worse != api.ErrBound {
			t.Error(p, c, err, bad, worse)
		}
		return false
	}
	if !sameTable(table, want) || err != nil {
		t.Error(p, c, table, want, err)
	}
	if !wantThrough(p, c).is(through) || bad != nil {
		t.Error(p, c, through, bad)
	}
	if l, wrong := wantGuess(p, c); !slices.Equal(guesses, l) || !isRat(f, wrong) || worse != nil {
		t.Error(p, c, guesses, f, l, wrong, worse)
	}
	return true
}

func TestSmallPairs(t *testing.T) {
	for _, size := range []struct{ rows, columns, most int }{{1, 1, 5}, {1, 3, 4}, {2, 1, 4}, {2, 2, 3}, {3, 1, 3}, {2, 3, 1}, {3, 2, 1}} {
		lists := allWeights(size.rows, 3)
		eachChannel(size.rows, size.columns, size.most, func(c [][]int) {
			for _, p := range lists {
				checkPair(t, p, c)
			}
		})
	}
}

func TestSomePairs(t *testing.T) {
	r := rand.New(rand.NewSource(80))
	told, refused := 0, 0
	for range 4000 {
		rows := someSize(r)
		c := someChannel(r, rows, someSize(r))
		p := someWeights(r, rows, []int{3, 16, 64, 4096}[r.Intn(4)])
		if r.Intn(3) == 0 {
			// So weights and sums cancel, however unlike the sums are.
			for i := range p {
				p[i] *= sumOf(c[i])
			}
		}
		if sumOf(p) > 4096 {
			continue
		}
		if checkPair(t, p, c) {
			told++
		} else {
			refused++
		}
	}
	if told < 1000 || refused < 300 {
		t.Error(told, refused)
	}
}
