package bayes

import (
	"math"
	"slices"
	"testing"

	"demon/api"
	"demon/channel"
	"demon/dist"
)

// table of rows that are all alike.
func table(rows, outcomes, x int) [][]int { return many(rows, many(outcomes, x)) }

type learning struct {
	w    []int
	c    [][]int
	data []int
}

// sameFault tells whether an error is the one that is wanted: with its place, or bare if that is below 0.
func sameFault(got, want error, at int) bool {
	if at < 0 {
		return got == want
	}
	f, is := got.(*api.Fault)
	return is && f.At == at && f.Err == want
}

type wrongLearning struct {
	learning
	err error
	at  int
}

// wrongOnes: with the errors that all three calls have in common.
func wrongOnes() []wrongLearning {
	two, most, least := [][]int{{1, 0}, {1, 1}}, math.MaxInt, math.MinInt
	even := []int{1, 1}
	out := []wrongLearning{
		{learning{even, nil, nil}, api.ErrShape, -1},
		{learning{nil, nil, nil}, api.ErrShape, -1},
		{learning{even, [][]int{{1}, {1, 1}}, nil}, api.ErrShape, -1},
		{learning{even, [][]int{{}, {}}, nil}, api.ErrShape, -1},
		{learning{even, [][]int{{1, 1}, {0, 0}}, nil}, api.ErrShape, -1},
		{learning{even, [][]int{{1, 1}, {2, -1}}, nil}, api.ErrShape, -1},
		{learning{even, [][]int{{1, 1}, {256, 1}}, nil}, api.ErrBound, -1},
		{learning{many(17, 1), table(17, 2, 1), nil}, api.ErrBound, -1},
		{learning{even, table(2, 17, 1), nil}, api.ErrBound, -1},
		{learning{nil, two, nil}, api.ErrShape, -1},
		{learning{[]int{}, two, nil}, api.ErrShape, -1},
		{learning{[]int{0, 0}, two, nil}, api.ErrShape, -1},
		{learning{[]int{1, -1}, two, nil}, api.ErrShape, -1},
		{learning{[]int{least, most}, two, nil}, api.ErrShape, -1},
		{learning{[]int{4096, 1}, two, nil}, api.ErrBound, -1},
		{learning{[]int{most, most}, two, nil}, api.ErrBound, -1},
		{learning{many(17, 1), two, nil}, api.ErrBound, -1},
		{learning{[]int{1}, two, nil}, api.ErrShape, -1},
		{learning{[]int{1, 1, 0}, two, nil}, api.ErrShape, -1},
		{learning{even, [][]int{{1}}, nil}, api.ErrShape, -1},
		{learning{even, two, many(41, 0)}, api.ErrBound, -1},
		{learning{even, two, many(100000, 0)}, api.ErrBound, -1},
		{learning{even, two, []int{2}}, api.ErrShape, 0},
		{learning{even, two, []int{-1}}, api.ErrShape, 0},
		{learning{even, two, []int{0, 1, 1, 2}}, api.ErrShape, 3},
		{learning{even, two, []int{0, -1, 2, 0}}, api.ErrShape, 1},
		{learning{even, two, []int{least}}, api.ErrShape, 0},
		{learning{even, two, []int{1, most, most}}, api.ErrShape, 1},
		{learning{even, two, append(many(39, 1), 2)}, api.ErrShape, 39},
		// What is 2 here is an outcome there.
		{learning{even, [][]int{{1, 0, 0}, {1, 1, 0}}, []int{2, 3}}, api.ErrShape, 1},
	}
	// Errors in their order: of the rows, of the weights, of both, of how much comes, of what comes.
	return append(out, []wrongLearning{
		{learning{many(17, 1), nil, many(41, 9)}, api.ErrShape, -1},
		{learning{[]int{-1, 1}, [][]int{{1, 256}, {1, 1}}, many(41, 9)}, api.ErrBound, -1},
		{learning{[]int{4097}, two, many(41, 9)}, api.ErrBound, -1},
		{learning{[]int{-1}, two, many(41, 9)}, api.ErrShape, -1},
		{learning{[]int{1}, two, many(41, 9)}, api.ErrShape, -1},
		{learning{even, two, many(41, 9)}, api.ErrBound, -1},
		// One that is none comes ahead of numbers, and of there being nothing.
		{learning{even, [][]int{{1, 255}, {255, 1}}, append(many(39, 0), 2)}, api.ErrShape, 39},
		{learning{[]int{1, 0}, two, []int{1, 2}}, api.ErrShape, 1},
	}...)
}

func TestWrongOnes(t *testing.T) {
	for _, c := range wrongOnes() {
		if f, err := Chance(c.w, c.c, c.data); f != (api.Frac{}) || !sameFault(err, c.err, c.at) {
			t.Error(c, f, err)
		}
		if l, err := Posterior(c.w, c.c, c.data); len(l) > 0 || !sameFault(err, c.err, c.at) {
			t.Error(c, l, err)
		}
		if k, err := Choice(c.w, c.c, c.data); k != 0 || !sameFault(err, c.err, c.at) {
			t.Error(c, k, err)
		}
	}
}

// P180

func rightOnes() []learning {
	two := [][]int{{1, 0}, {1, 1}}
	return []learning{
		{[]int{1, 1}, two, []int{0, 0}},
		{[]int{1, 1}, two, nil},
		{[]int{3, 1}, two, []int{}},
		{[]int{1, 1}, two, []int{1}},
		{[]int{1, 3}, two, []int{0, 1, 0}},
		{[]int{7}, [][]int{{1, 2, 0}}, []int{1, 0, 1}},
		{[]int{0, 1, 1}, [][]int{{1, 1}, {3, 1}, {1, 3}}, []int{0, 0}},
		{[]int{2, 1, 1}, [][]int{{1, 1}, {3, 1}, {1, 3}}, []int{0, 1}},
		{[]int{2, 6}, [][]int{{200, 50}, {2, 6}}, []int{0}},
		{many(16, 256), table(16, 16, 16), many(15, 3)},
	}
}

func TestChance(t *testing.T) {
	want := fracs(5, 8, 1, 1, 1, 1, 1, 4, 3, 32, 4, 27, 5, 16, 7, 32, 31, 80, 1, 1<<60)
	for i, c := range rightOnes() {
		if f, err := Chance(c.w, c.c, c.data); f != want[i] || err != nil {
			t.Error(c, f, err)
		}
	}
	// Nothing that can come has the chance 0, even if a number would be too great else.
	for _, c := range []learning{
		{[]int{1, 0}, [][]int{{1, 0}, {1, 1}}, []int{1}},
		{[]int{1, 1}, [][]int{{1, 0}, {0, 1}}, []int{0, 1}},
		{[]int{1, 1}, [][]int{{1, 2, 0}, {3, 1, 0}}, []int{2}},
		{[]int{1}, [][]int{{0, 1, 255}}, append(many(39, 1), 0)},
	} {
		if f, err := Chance(c.w, c.c, c.data); f != frac(0, 1) || err != nil {
			t.Error(c, f, err)
		}
	}
}

func TestChanceBound(t *testing.T) {
	for _, c := range []struct {
		learning
		want api.Frac
	}{
		{learning{[]int{1}, [][]int{{1, 3}}, many(31, 0)}, frac(1, 1<<62)},
		{learning{[]int{4096}, [][]int{{1, 3}}, many(31, 0)}, frac(1, 1<<62)},
		{learning{[]int{1}, [][]int{{1, 3}}, many(32, 0)}, api.Frac{}},
		{learning{[]int{1, 0, 3}, [][]int{{1, 3}, {1, 3}, {0, 1}}, many(30, 0)}, frac(1, 1<<62)},
		{learning{[]int{1, 0, 4}, [][]int{{1, 3}, {1, 3}, {0, 1}}, many(30, 0)}, api.Frac{}},
		{learning{[]int{1, 2244}, [][]int{{1, 153}, {0, 1}}, many(7, 0)}, api.Frac{}}, // 1 over 4611703645962878080
		{learning{[]int{1, 4095}, [][]int{{1, 3}, {0, 1}}, many(25, 0)}, frac(1, 1<<62)},
		{learning{[]int{1}, [][]int{{1, 1}}, many(40, 1)}, frac(1, 1<<40)},
		{learning{[]int{1}, [][]int{{1, 255}}, many(40, 1)}, api.Frac{}},
		{learning{[]int{9}, [][]int{{256, 0}}, many(40, 0)}, frac(1, 1)},
		{learning{many(16, 1), table(16, 2, 128), many(40, 0)}, frac(1, 1<<40)},
	} {
		var wantErr error
		if c.want == (api.Frac{}) {
			wantErr = api.ErrBound
		}
		if f, err := Chance(c.w, c.c, c.data); f != c.want || err != wantErr {
			t.Error(c, f, err)
		}
	}
}

func TestPosterior(t *testing.T) {
	want := [][]api.Frac{
		fracs(4, 5, 1, 5),
		fracs(1, 2, 1, 2),
		fracs(3, 4, 1, 4),
		fracs(0, 1, 1, 1),
		fracs(0, 1, 1, 1),
		fracs(1, 1),
		fracs(0, 1, 9, 10, 1, 10),
		fracs(4, 7, 3, 14, 3, 14),
		fracs(16, 31, 15, 31),
		many(16, frac(1, 16)),
	}
	for i, c := range rightOnes() {
		if l, err := Posterior(c.w, c.c, c.data); !slices.Equal(l, want[i]) || err != nil {
			t.Error(c, l, err)
		}
	}
}

// What cannot come leaves nothing to be told.
func TestNone(t *testing.T) {
	for _, c := range []learning{
		{[]int{1, 0}, [][]int{{1, 0}, {1, 1}}, []int{1}},
		{[]int{1, 1}, [][]int{{1, 0}, {0, 1}}, []int{0, 1}},
		{[]int{1, 1}, [][]int{{1, 2, 0}, {3, 1, 0}}, []int{0, 2, 1}},
		{[]int{0, 4096, 0}, [][]int{{1, 1}, {256, 0}, {1, 1}}, append(many(39, 0), 1)},
		{[]int{1}, [][]int{{0, 1, 255}}, append(many(39, 1), 0)},
	} {
		if l, err := Posterior(c.w, c.c, c.data); len(l) > 0 || err != api.ErrNone {
			t.Error(c, l, err)
		}
		if k, err := Choice(c.w, c.c, c.data); k != 0 || err != api.ErrNone {
			t.Error(c, k, err)
		}
	}
}

// stairs: twelve hypotheses of which each one, but the first and the last, is 64 times as likely as the one ahead of it, behind all outcomes but the last one, three times each. Their chances are first, 63, 63 times 64, and so on, over 2 to the power of 62, and what first is above 1.
func stairs(first int) learning {
	s := learning{w: append([]int{first}, append(many(10, 63), 3)...), c: [][]int{append(many(10, 1), 30)}}
	for i := range 11 {
		s.c = append(s.c, slices.Concat(many(i, 4), many(10-i, 1), []int{30 - 3*i}))
	}
	for k := range 10 {
		s.data = append(s.data, k, k, k)
	}
	return s
}

func TestPosteriorBound(t *testing.T) {
	s := stairs(1)
	l, err := Posterior(s.w, s.c, s.data)
	k, also := Choice(s.w, s.c, s.data)
	if len(l) != 12 || l[0] != frac(1, 1<<62) || l[1] != frac(63, 1<<62) || l[2] != frac(63, 1<<56) || l[11] != frac(3, 4) || k != 11 || err != nil || also != nil {
		t.Error(l, k, err, also)
	}
	// The chance of all that is long, though what is behind it is not.
	if f, err := Chance(s.w, s.c, s.data); f != (api.Frac{}) || err != api.ErrBound {
		t.Error(f, err)
	}
	// One more: an error, though the likeliest one can be seen.
	s = stairs(2)
	l, err = Posterior(s.w, s.c, s.data)
	k, also = Choice(s.w, s.c, s.data)
	if len(l) > 0 || k != 0 || err != api.ErrBound || also != api.ErrBound {
		t.Error(l, k, err, also)
	}
	// A chance that is short, and what is behind it too long: 3 to the power of 40, and 1.
	long := learning{[]int{1, 1}, [][]int{{3, 1}, {1, 3}}, many(40, 0)}
	if l, err := Posterior(long.w, long.c, long.data); len(l) > 0 || err != api.ErrBound {
		t.Error(l, err)
	}
}

// The three calls refuse in the same way what dist and channel refuse.
func TestSameErrors(t *testing.T) {
	rows := [][][]int{nil, {nil}, {{1}}, {{0}}, {{257}}, {{1, 1}, {1}}, {{1, 1}, {1, 2}}, table(16, 16, 16), table(17, 1, 1), table(1, 17, 1), {{128, 128}, {1, -1}}}
	weights := [][]int{nil, {0}, {1}, {4096}, {4097}, {-1}, {1, 1}, many(16, 256), many(16, 257), many(17, 1)}
	for _, c := range rows {
		for _, w := range weights {
			want := channel.Valid(c)
			if want == nil {
				want = dist.Valid(w)
			}
			if want == nil && len(w) != len(c) {
				want = api.ErrShape
			}
			if _, err := Chance(w, c, []int{0}); err != want {
				t.Error(w, c, err, want)
			}
			if _, err := Posterior(w, c, []int{0}); err != want {
				t.Error(w, c, err, want)
			}
			if _, err := Choice(w, c, []int{0}); err != want {
				t.Error(w, c, err, want)
			}
		}
	}
}

// P182

func TestChoice(t *testing.T) {
	two, three := [][]int{{1, 0}, {1, 1}}, [][]int{{2, 1, 1}, {1, 2, 1}, {1, 1, 2}}
	for _, c := range []struct {
		learning
		want int
	}{
		{learning{[]int{1, 1}, two, []int{1}}, 1},
		{learning{[]int{1, 1}, two, []int{0}}, 0},
		{learning{[]int{1, 2}, two, []int{0}}, 0}, // as likely
		{learning{[]int{1, 3}, two, []int{0}}, 1},
		{learning{[]int{1, 3}, two, []int{0, 0}}, 0},
		{learning{[]int{1, 1, 1}, three, nil}, 0},
		{learning{[]int{0, 1, 1}, three, nil}, 1},
		{learning{[]int{1, 2, 2}, three, nil}, 1},
		{learning{[]int{1, 1, 1}, three, []int{2}}, 2},
		{learning{[]int{1, 1, 1}, three, []int{2, 1}}, 1},
		{learning{[]int{1, 1, 1}, three, []int{0, 1, 2}}, 0},
		{learning{[]int{1, 1, 1}, three, []int{2, 2, 1, 0, 1}}, 1},
		{learning{many(16, 256), table(16, 16, 16), many(40, 15)}, 0},
		{learning{[]int{5}, [][]int{{9}}, nil}, 0},
		{learning{[]int{2047, 2048}, table(2, 2, 128), many(40, 1)}, 1},
		{learning{[]int{2048, 2047}, table(2, 2, 128), many(40, 1)}, 0},
		// Numbers of which no product fits in a word: 3 to the power of 38 against 5 to the power of 26.
		{learning{[]int{1, 1}, [][]int{{9, 1, 16}, {1, 25, 0}}, slices.Concat(many(19, 0), many(13, 1))}, 1},
		{learning{[]int{1, 1}, [][]int{{1, 25, 0}, {9, 1, 16}}, slices.Concat(many(19, 0), many(13, 1))}, 0},
	} {
		if k, err := Choice(c.w, c.c, c.data); k != c.want || err != nil {
			t.Error(c, k, err)
		}
	}
}
