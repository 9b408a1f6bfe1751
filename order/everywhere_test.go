package order

// P1 to P4, as far as they speak of package order.

import (
	"errors"
	"math"
	"reflect"
	"slices"
	"sync"
	"testing"

	"demon/api"
)

func wildNumbers() []int {
	return []int{math.MinInt, math.MinInt32, -17, -1, 0, 1, 2, 3, 15, 16, 17, 4000, 4096, 4097, 1000000, 1000001, 1 << 32, 1 << 62, math.MaxInt}
}

func wildLists() [][]int {
	out := [][]int{nil, {}, make([]int, 100000)}
	for _, a := range wildNumbers() {
		for _, n := range []int{1, 2, 3, 8, 9, 16, 17, 4001} {
			out = append(out, many(n, a))
		}
		for _, b := range wildNumbers() {
			out = append(out, []int{a, b}, []int{a, 1, b})
		}
	}
	return out
}

func wildMoves() [][]Move {
	out := [][]Move{nil, {}, make([]Move, 4000), make([]Move, 4001), make([]Move, 100000), many(4000, Move{0, 1, 0})}
	for _, m := range wrongMoves() {
		out = append(out, []Move{m}, []Move{{0, 1, 0}, m})
	}
	for _, a := range wildNumbers() {
		for _, b := range wildNumbers() {
			out = append(out, []Move{{a, b, 1}}, []Move{{0, a, b}}, []Move{{a, 0, b}, {b, a, a}})
		}
	}
	return out
}

func wildTables() [][][]int {
	out := [][][]int{nil, {}, {nil, {}}, make([][]int, 8), make([][]int, 9), make([][]int, 100000)}
	for _, x := range wrongTables() {
		out = append(out, x.m)
	}
	for _, l := range wildLists() {
		out = append(out, [][]int{l}, [][]int{l, l}, [][]int{{1, 1}, l}, [][]int{l, nil}, many(len(l)%100, l))
	}
	return out
}

func wildPoints() [][]Point {
	out := [][]Point{nil, {}, make([]Point, 60), make([]Point, 61), make([]Point, 100000)}
	for _, a := range wildNumbers() {
		for _, b := range wildNumbers() {
			out = append(out, []Point{{a, b}}, []Point{{0, 0}, {a, b}}, []Point{{a, a}, {b, b}, {a, b}, {1, 1}}, many(60, Point{a, b}))
		}
	}
	return out
}

// known: an error of those that the chapter names.
func known(err error, names ...error) bool {
	var f *api.Fault
	if errors.As(err, &f) {
		return false
	}
	return slices.Contains(names, err)
}

// P1 and P3: every call ends without a panic; with an error there is nothing else.
func TestWildLists(t *testing.T) {
	lists := wildLists()
	for _, p := range lists {
		for _, q := range lists {
			above, err := Above(p, q)
			if !known(err, nil, api.ErrBound, api.ErrShape) || err != nil && above {
				t.Error(len(p), len(q), above, err)
			}
			l, bad := Moves(p, q)
			if err == nil && !above {
				err = api.ErrNone
			}
			if bad != err || bad != nil && len(l) > 0 {
				t.Error(len(p), len(q), l, bad, err)
			}
		}
	}
	moves := wildMoves()
	for _, p := range lists {
		for _, l := range moves {
			got, err := Apply(p, l)
			var f *api.Fault
			if errors.As(err, &f) {
				if err != error(f) || f.Err != api.ErrOrder || f.At < 0 || f.At >= len(l) || len(got) > 0 {
					t.Error(len(p), len(l), got, err)
				}
				continue
			}
			if !known(err, nil, api.ErrBound, api.ErrShape) || err != nil && len(got) > 0 || err == nil && len(got) != len(p) {
				t.Error(len(p), len(l), got, err)
			}
		}
	}
}

func TestWildTables(t *testing.T) {
	lists := wildLists()
	for _, m := range wildTables() {
		parts, often, bad := Parts(m)
		if !known(bad, nil, api.ErrBound, api.ErrShape) || len(parts) != len(often) || bad != nil && len(parts) > 0 {
			t.Error(len(m), parts, often, bad)
		}
		for _, w := range lists {
			got, err := Spread(m, w)
			if bad != nil && err != bad || err != nil && len(got) > 0 || err == nil && len(got) != len(m) || !known(err, nil, api.ErrBound, api.ErrShape) {
				t.Error(len(m), len(w), got, err)
			}
		}
	}
}

func TestWildPoints(t *testing.T) {
	for _, l := range wildPoints() {
		h, bad := Hull(l)
		if !known(bad, nil, api.ErrBound, api.ErrShape) || (len(h) > 0) != (bad == nil) {
			t.Error(len(l), h, bad)
		}
		for _, x := range wildNumbers() {
			f, a, b, err := Mix(l, x)
			if bad != nil && err != bad || bad == nil && !known(err, nil, api.ErrNone) {
				t.Error(len(l), x, err, bad)
			}
			if err != nil && (f != (api.Frac{}) || a != 0 || b != 0) || err == nil && (f.Den < 1 || !slices.Contains(h, a) || !slices.Contains(h, b)) {
				t.Error(len(l), x, f, a, b, err)
			}
		}
	}
}

// given to all calls of the package.
type given struct {
	p, q []int
	l    []Move
	m    [][]int
	w    []int
	hull []Point
	x    int
}

func right() given {
	return given{[]int{0, 6, 3}, []int{3, 4, 2}, []Move{{1, 0, 2}, {2, 1, 0}}, [][]int{{2, 1}, {1, 2}}, []int{3, 0}, testPoints(), 3}
}

func answers(g given) []any {
	above, err := Above(g.p, g.q)
	out := []any{above, err}
	moves, err := Moves(g.p, g.q)
	out = append(out, moves, err)
	list, err := Apply(g.p, g.l)
	out = append(out, list, err)
	parts, often, err := Parts(g.m)
	out = append(out, parts, often, err)
	list, err = Spread(g.m, g.w)
	out = append(out, list, err)
	list, err = Hull(g.hull)
	out = append(out, list, err)
	f, a, b, err := Mix(g.hull, g.x)
	return append(out, f, a, b, err)
}

// wantAnswers to what is right. The last move asks for a number that is no lesser one.
func wantAnswers() []any {
	return []any{true, nil, []Move{{1, 0, 2}}, nil, []int(nil), error(&api.Fault{At: 1, Err: api.ErrOrder}), [][]int{{0, 1}, {1, 0}}, []int{2, 1}, nil, []int{6, 3}, nil, []int{1, 2, 0}, nil, frac(-1, 1), 2, 0, nil}
}

// P2: the same answers, however many ask at once, and again and again.
func TestSideBySide(t *testing.T) {
	g := right()
	var all sync.WaitGroup
	for range 16 {
		all.Go(func() {
			for range 100 {
				if got := answers(g); !reflect.DeepEqual(got, wantAnswers()) {
					t.Error(got)
				}
			}
		})
	}
	all.Wait()
}

// P3 and P4: what lies behind a list's length is left alone, what is handed over is only read.
func TestOnlyRead(t *testing.T) {
	numbers := []int{0, 6, 3, -1, 3, 4, 2, -2, 2, 1, -3, 1, 2, -4, 3, 0, -5}
	moves := []Move{{1, 0, 2}, {2, 1, 0}, {0, 0, -1}}
	points := append(testPoints(), Point{-5, -5})
	rows := [][]int{numbers[8:10], numbers[11:13], {1, 0}, nil}
	keptNumbers, keptMoves, keptPoints := slices.Clone(numbers), slices.Clone(moves), slices.Clone(points)
	g := given{numbers[0:3], numbers[4:7], moves[:2], rows[:2], numbers[14:16], points[:6], 3}
	if got := answers(g); !reflect.DeepEqual(got, wantAnswers()) {
		t.Error(got)
	}
	g.l = moves[:1]
	if list, err := Apply(g.p, g.l); !slices.Equal(list, []int{2, 4, 3}) || err != nil {
		t.Error(list, err)
	}
	if !slices.Equal(numbers, keptNumbers) || !slices.Equal(moves, keptMoves) || !slices.Equal(points, keptPoints) {
		t.Error(numbers, moves, points)
	}
	if len(rows[0]) != 2 || &rows[0][0] != &numbers[8] || len(rows[1]) != 2 || &rows[1][0] != &numbers[11] || len(rows[2]) != 2 || rows[3] != nil {
		t.Error(rows)
	}
}

// spoil all that is seen of a list's memory.
func spoil[T any](l []T) {
	var zero T
	l = l[:cap(l)]
	for i := range l {
		l[i] = zero
	}
}

// P4: what is answered is new memory, no two lists of it share any, and nothing is kept; an error that is changed by who got it is none of the next one's.
func TestNewMemory(t *testing.T) {
	g := right()
	for range 3 {
		moves, _ := Moves(g.p, g.q)
		none, _ := Apply(g.p, nil)
		list, _ := Apply(g.p, g.l[:1])
		parts, often, _ := Parts(g.m)
		spread, _ := Spread(g.m, g.w)
		hull, _ := Hull(g.hull)
		spoil(parts[0])
		if !slices.Equal(parts[1], []int{1, 0}) || !slices.Equal(none, g.p) {
			t.Error(parts, none)
		}
		spoil(moves)
		spoil(none)
		spoil(list)
		spoil(parts)
		spoil(often)
		spoil(spread)
		spoil(hull)
		_, err := Apply(g.p, g.l)
		if !isError(err, api.ErrOrder, 1) {
			t.Error(err)
		}
		*err.(*api.Fault) = api.Fault{At: 9}
		if got := answers(g); !reflect.DeepEqual(g, right()) || !reflect.DeepEqual(got, wantAnswers()) {
			t.Error(g, got)
		}
	}
	// What was handed over may be changed between two calls.
	g.p[0], g.p[1], g.l[1], g.m[0], g.m[1], g.w[1], g.hull[2].Y = 4, 2, Move{0, 1, 1}, []int{1, 2}, []int{2, 1}, 1, 7
	got := answers(g)
	want := []any{true, nil, []Move(nil), nil, []int(nil), error(&api.Fault{At: 0, Err: api.ErrOrder}), [][]int{{0, 1}, {1, 0}}, []int{1, 2}, nil, []int{5, 7}, nil, []int{1, 4, 0}, nil, frac(-1, 3), 4, 0, nil}
	if !reflect.DeepEqual(got, want) {
		t.Error(got)
	}
}
