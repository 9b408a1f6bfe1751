package order

import (
	"math"
	"math/rand"
	"slices"
	"testing"

	"demon/api"
)

// P151

// checkMoves of two lists of which the first one majorizes the second one.
func checkMoves(t *testing.T, p, q []int) []Move {
	t.Helper()
	l, err := Moves(p, q)
	if err != nil || len(l) >= len(p) {
		t.Fatal(p, q, l, err)
	}
	want, wrong := wantApply(p, l)
	if wrong >= 0 || !slices.Equal(sorted(want), sorted(q)) {
		t.Fatal(p, q, l, want, wrong)
	}
	if got, err := Apply(p, l); !slices.Equal(got, want) || err != nil {
		t.Fatal(p, q, l, got, err)
	}
	return l
}

func TestMoves(t *testing.T) {
	for _, x := range []struct {
		p, q []int
		most int // so many moves are enough
	}{
		{[]int{0}, []int{0}, 0},
		{[]int{4096}, []int{4096}, 0},
		{[]int{0, 4}, []int{2, 2}, 1},
		{[]int{4, 0}, []int{1, 3}, 1},
		{[]int{1, 2, 3}, []int{3, 1, 2}, 2},
		{[]int{0, 0, 6}, []int{2, 2, 2}, 2},
		{[]int{3, 3, 0}, []int{2, 2, 2}, 2},
		{[]int{5, 0, 1}, []int{3, 3, 0}, 2},
		{[]int{4, 3, 1, 0}, []int{3, 3, 1, 1}, 3},
		{[]int{6, 6, 0, 0}, []int{3, 3, 3, 3}, 3},
		{append([]int{4096}, many(15, 0)...), many(16, 256), 15},
		{append(many(15, 0), 4096), many(16, 256), 15},
		{append(many(8, 4096), many(8, 0)...), many(16, 2048), 15},
		{many(16, 4096), many(16, 4096), 15},
	} {
		if l := checkMoves(t, x.p, x.q); len(l) > x.most {
			t.Error(x, l)
		}
	}
}

func checkMovesRefused(t *testing.T, p, q []int, want error) {
	t.Helper()
	if l, err := Moves(p, q); len(l) > 0 || err != want {
		t.Error(p, q, l, err)
	}
}

func TestMovesRefuses(t *testing.T) {
	for _, x := range wrongPairs() {
		checkMovesRefused(t, x.p, x.q, x.err)
	}
	checkMovesRefused(t, []int{2, 2}, []int{4, 0}, api.ErrNone)
	checkMovesRefused(t, []int{2, 2}, []int{1, 3}, api.ErrNone)
	checkMovesRefused(t, []int{3, 3, 0}, []int{4, 1, 1}, api.ErrNone)
	checkMovesRefused(t, []int{4, 1, 1}, []int{3, 3, 0}, api.ErrNone)
	checkMovesRefused(t, many(16, 256), append(many(15, 0), 4096), api.ErrNone)
}

func TestAllMoves(t *testing.T) {
	for length, most := range map[int]int{1: 6, 2: 8, 3: 5, 4: 3, 5: 2} {
		rows := allRows(length, most)
		for _, p := range rows {
			for _, q := range rows {
				switch {
				case sumOf(p) != sumOf(q):
					continue
				case wantAboveLong(p, q):
					checkMoves(t, p, q)
				default:
					checkMovesRefused(t, p, q, api.ErrNone)
				}
			}
		}
	}
}

func TestSomeMoves(t *testing.T) {
	r := rand.New(rand.NewSource(151))
	seen, refused := map[int]int{}, 0
	for k := range 20000 {
		p := someRow(r, 1+r.Intn(16), []int{2, 9, 100, 4096}[k%4])
		if q := another(r, p); wantAboveLong(p, q) {
			seen[len(checkMoves(t, p, q))]++
		} else {
			checkMovesRefused(t, p, q, api.ErrNone)
			refused++
		}
	}
	for moves := range 14 {
		if seen[moves] < 10 {
			t.Error(seen)
		}
	}
	if refused < 1000 {
		t.Error(refused)
	}
}

func TestApply(t *testing.T) {
	for _, x := range []struct {
		p    []int
		l    []Move
		want []int
	}{
		{[]int{5, 0, 1}, nil, []int{5, 0, 1}},
		{[]int{5, 0, 1}, []Move{}, []int{5, 0, 1}},
		{[]int{5, 0, 1}, []Move{{0, 1, 0}}, []int{5, 0, 1}},
		{[]int{5, 0, 1}, []Move{{0, 1, 5}}, []int{0, 5, 1}}, // the order is turned, the distance stays
		{[]int{5, 0, 1}, []Move{{0, 1, 2}}, []int{3, 2, 1}},
		{[]int{5, 0, 1}, []Move{{0, 1, 3}}, []int{2, 3, 1}},
		{[]int{5, 0, 1}, []Move{{2, 1, 1}}, []int{5, 1, 0}},
		{[]int{5, 0, 1}, []Move{{0, 1, 5}, {1, 2, 4}}, []int{0, 1, 5}},
		{[]int{5, 0, 1}, []Move{{0, 1, 5}, {1, 0, 5}}, []int{5, 0, 1}},
		{[]int{2, 2}, []Move{{0, 1, 0}, {1, 0, 0}}, []int{2, 2}},
		{[]int{0, 0}, []Move{{1, 0, 0}}, []int{0, 0}},
		{[]int{4096, 0}, []Move{{0, 1, 4096}}, []int{0, 4096}},
		{nil, nil, nil},
		{[]int{}, []Move{}, nil},
		{[]int{7}, nil, []int{7}},
		{append(many(15, 4096), 0), []Move{{14, 15, 4096}}, append(many(14, 4096), 0, 4096)},
		{[]int{3, 0}, slices.Repeat([]Move{{0, 1, 3}, {1, 0, 3}}, 2000), []int{3, 0}},
		{[]int{3, 0}, append(slices.Repeat([]Move{{0, 1, 3}, {1, 0, 3}}, 1999), Move{0, 1, 3}, Move{1, 0, 2}), []int{2, 1}},
	} {
		if got, err := Apply(x.p, x.l); !slices.Equal(got, x.want) || err != nil {
			t.Error(x.p, len(x.l), got, err)
		}
	}
}

func checkApplyRefused(t *testing.T, p []int, l []Move, want error, at int) {
	t.Helper()
	if got, err := Apply(p, l); len(got) > 0 || !isError(err, want, at) {
		t.Error(len(p), len(l), got, err, want, at)
	}
}

func wrongMoves() []Move {
	out := []Move{
		{0, 0, 0}, {1, 1, 0}, {2, 2, 0}, {0, 0, -1}, {0, 0, 1}, // one place
		{0, 3, 0}, {3, 0, 0}, {3, 3, 0}, {3, 4, 0}, {0, -1, 0}, {-1, 0, 0}, {-1, -2, 0}, // no places
		{0, 1, -1}, {1, 0, -1}, {0, 1, -5}, {1, 0, -5}, {1, 0, -6}, // below 0
		{0, 1, 6}, {0, 2, 5}, {2, 1, 2}, // more than the distance
		{1, 0, 0}, {1, 0, 1}, {1, 2, 0}, {2, 0, 0}, {2, 0, 4}, // from the lesser one
	}
	for _, n := range []int{math.MinInt, math.MinInt32, -16, 16, 1 << 32, math.MaxInt} {
		out = append(out, Move{n, 0, 0}, Move{0, n, 0}, Move{n, n, 0}, Move{0, 1, n}, Move{1, 0, n}, Move{n, n + 1, n})
	}
	return out
}

func TestApplyRefuses(t *testing.T) {
	p, right := []int{5, 0, 1}, Move{0, 2, 0}
	for _, m := range wrongMoves() {
		checkApplyRefused(t, p, []Move{m}, api.ErrOrder, 0)
		checkApplyRefused(t, p, []Move{right, m, right}, api.ErrOrder, 1)
		checkApplyRefused(t, p, append(many(3999, right), m), api.ErrOrder, 3999)
		// Only the first one is told.
		checkApplyRefused(t, p, []Move{right, right, m, {0, 0, 0}, m}, api.ErrOrder, 2)
		// Too many, and numbers that are none, come ahead of it.
		checkApplyRefused(t, p, append(many(4000, right), m), api.ErrBound, -1)
		checkApplyRefused(t, []int{5, 0, -1}, []Move{m}, api.ErrShape, -1)
		checkApplyRefused(t, many(17, 0), []Move{m}, api.ErrBound, -1)
	}
	// What a move may be is told by the list that it comes to.
	checkApplyRefused(t, p, []Move{{0, 1, 5}, {0, 1, 0}}, api.ErrOrder, 1)
	checkApplyRefused(t, p, []Move{{0, 1, 2}, {0, 1, 2}}, api.ErrOrder, 1)
	checkApplyRefused(t, p, []Move{{0, 1, 2}, {0, 1, 1}, {0, 1, 1}}, api.ErrOrder, 2)
	checkApplyRefused(t, nil, []Move{{0, 0, 0}}, api.ErrOrder, 0)
	checkApplyRefused(t, nil, []Move{{0, 1, 0}}, api.ErrOrder, 0)
	checkApplyRefused(t, []int{1}, []Move{{0, 1, 0}}, api.ErrOrder, 0)
	checkApplyRefused(t, p, many(4001, right), api.ErrBound, -1)
	checkApplyRefused(t, p, make([]Move, 100000), api.ErrBound, -1)
	checkApplyRefused(t, nil, many(4001, right), api.ErrBound, -1)
	checkApplyRefused(t, many(17, 0), nil, api.ErrBound, -1)
	checkApplyRefused(t, many(100000, -1), nil, api.ErrBound, -1)
	checkApplyRefused(t, []int{-1}, many(4001, right), api.ErrBound, -1)
	for _, n := range noNumbers() {
		for at := range 16 {
			l := many(16, 1)
			l[at] = n
			checkApplyRefused(t, l, nil, api.ErrShape, -1)
			checkApplyRefused(t, l, []Move{{0, 1, 0}}, api.ErrShape, -1)
		}
	}
}

func checkApply(t *testing.T, p []int, l []Move) bool {
	t.Helper()
	want, wrong := wantApply(p, l)
	if wrong >= 0 {
		checkApplyRefused(t, p, l, api.ErrOrder, wrong)
		return false
	}
	if got, err := Apply(p, l); !slices.Equal(got, want) || err != nil {
		t.Error(p, l, got, err)
	}
	return true
}

// Each one or two moves between places from -1 to 3, of three numbers up to 3.
func TestAllApplied(t *testing.T) {
	var moves []Move
	eachRow(3, 5, func(x []int) {
		if x[0] <= 4 && x[1] <= 4 {
			moves = append(moves, Move{x[0] - 1, x[1] - 1, x[2] - 1})
		}
	})
	eachRow(3, 3, func(p []int) {
		for _, a := range moves {
			if !checkApply(t, p, []Move{a}) {
				continue
			}
			for _, b := range moves {
				checkApply(t, p, []Move{a, b})
			}
		}
	})
}

func TestSomeApplied(t *testing.T) {
	r := rand.New(rand.NewSource(1511))
	right := 0
	for k := range 20000 {
		p := someRow(r, 1+r.Intn(16), []int{2, 9, 100, 4096}[k%4])
		now, l := p, []Move(nil)
		for range r.Intn(12) {
			from, to := r.Intn(len(p)), r.Intn(len(p))
			l = append(l, Move{from, to, r.Intn(max(0, now[from]-now[to]) + 1)})
			if r.Intn(8) == 0 {
				l[len(l)-1].Size++
			}
			if next, wrong := wantApply(p, l); wrong < 0 {
				now = next
			} else if r.Intn(9) > 0 {
				l = l[:len(l)-1]
			}
		}
		if checkApply(t, p, l) {
			right++
		}
	}
	if right < 5000 || right > 19000 {
		t.Error(right)
	}
}
