package bayes

// P1 to P4, as far as they speak of package bayes.

import (
	"errors"
	"math"
	"reflect"
	"slices"
	"sync"
	"testing"

	"demon/api"
)

func wildNumbers() []int {
	return []int{math.MinInt, math.MinInt32, -17, -1, 0, 1, 2, 3, 16, 17, 255, 256, 257, 4095, 4096, 4097, 1 << 32, 1 << 62, math.MaxInt}
}

func wildLists() [][]int {
	out := [][]int{nil, {}, make([]int, 100000)}
	for _, a := range wildNumbers() {
		for _, n := range []int{1, 2, 3, 16, 17, 40, 41} {
			out = append(out, many(n, a))
		}
		out = append(out, []int{a, 1}, []int{1, a}, []int{1, a, a})
	}
	return out
}

func wildChannels() [][][]int {
	out := [][][]int{nil, {}, {nil}, {nil, nil}, make([][]int, 100000), many(2, make([]int, 100000)), {{1}, {1, 1}}, {{1, 1}, {1}}, {{1, 0}, {1, 1}}, {{0, 1}, {255, 1}}, {{1}}, table(3, 3, 1), table(16, 16, 16)}
	for _, a := range wildNumbers() {
		out = append(out, [][]int{{a}}, [][]int{{a, 1}, {1, a}}, [][]int{{1, 1, 1}, {1, a, 1}, {1, 1, 1}}, table(16, 16, a))
	}
	return out
}

// known: nil, or an error of those that the chapter names: bare, or with a place if its kind has one.
func known(err error, bare ...error) bool {
	var f *api.Fault
	if errors.As(err, &f) {
		return f.At >= 0 && f.At < 40 && f.Err == api.ErrShape
	}
	return err == nil || slices.Contains(bare, err)
}

// isRight: in its lowest terms, from 0 to 1.
func isRight(f api.Frac) bool {
	return f.Den > 0 && f.Num >= 0 && f.Num <= f.Den && f.Den <= api.MaxTold && isTold(f, nil, ratOf(f))
}

// P1 and P3: every call ends without a panic; with an error there is nothing else.
func checkWild(t *testing.T, w []int, c [][]int, data []int) {
	t.Helper()
	f, err := Chance(w, c, data)
	if !known(err, api.ErrBound, api.ErrShape) || (f == api.Frac{}) != (err != nil) || err == nil && !isRight(f) {
		t.Error(len(w), len(c), len(data), f, err)
	}
	l, err := Posterior(w, c, data)
	if !known(err, api.ErrBound, api.ErrShape, api.ErrNone) || (len(l) == 0) != (err != nil) || err == nil && len(l) != len(w) {
		t.Error(len(w), len(c), len(data), l, err)
	}
	for _, f := range l {
		if !isRight(f) {
			t.Error(len(w), len(c), len(data), l)
		}
	}
	k, also := Choice(w, c, data)
	if plainly(err) != plainly(also) || k < 0 || k >= max(1, len(l)) {
		t.Error(len(w), len(c), len(data), k, err, also)
	}
}

// plainly: an error without its place.
func plainly(err error) error {
	var f *api.Fault
	if errors.As(err, &f) {
		return f.Err
	}
	return err
}

func TestWildLearning(t *testing.T) {
	lists := wildLists()
	for _, c := range wildChannels() {
		for _, w := range lists {
			checkWild(t, w, c, []int{0})
		}
		for _, data := range lists {
			checkWild(t, many(len(c), 1), c, data)
			checkWild(t, []int{0, 1}, c, data)
		}
	}
}

func TestWildErrors(t *testing.T) {
	lists := wildLists()
	for _, p := range lists {
		for _, q := range lists {
			f, err := Errors(p, q, 1)
			if err != nil && err != api.ErrBound && err != api.ErrShape || (f == api.Frac{}) != (err != nil) || err == nil && !isRight(f) {
				t.Error(len(p), len(q), f, err)
			}
		}
		for _, n := range append(wildNumbers(), 4, 5, 6, 7) {
			f, err := Errors(p, slices.Clone(p), n)
			if err != nil && err != api.ErrBound && err != api.ErrShape || (f == api.Frac{}) != (err != nil) || err == nil && f != frac(1, 1) {
				t.Error(len(p), n, f, err)
			}
		}
	}
}

// given to all calls of the package.
type given struct {
	learning
	p, q []int
	n    int
}

func right() given {
	return given{learning{[]int{1, 1, 2}, [][]int{{1, 0, 1}, {1, 1, 2}, {0, 3, 1}}, []int{0, 2, 0}}, []int{3, 0, 1}, []int{1, 2, 1}, 2}
}

func answers(g given) []any {
	a := answersOf(g.w, g.c, g.data)
	f, err := Errors(g.p, g.q, g.n)
	return []any{a.chance, a.one, a.chances, a.two, a.choice, a.on, f, err}
}

// wantAnswers to what is right.
func wantAnswers() []any {
	return []any{frac(5, 128), nil, fracs(4, 5, 1, 5, 0, 1), nil, 0, nil, frac(1, 4), nil}
}

// P2: the same answers, however many ask at once, and again and again.
func TestSideBySide(t *testing.T) {
	g := right()
	var all sync.WaitGroup
	for range 16 {
		all.Go(func() {
			for range 100 {
				if got := answers(g); !reflect.DeepEqual(got, wantAnswers()) {
					t.Error(got)
					return
				}
			}
		})
	}
	all.Wait()
}

// P3 and P4: what lies behind a list's length is left alone, what is handed over is only read.
func TestOnlyRead(t *testing.T) {
	numbers := []int{1, 1, 2, -1, 1, 0, 1, -2, 1, 1, 2, -3, 0, 3, 1, -4, 0, 2, 0, 9, 3, 0, 1, -5, 1, 2, 1, -6}
	kept := slices.Clone(numbers)
	rows := [][]int{numbers[4:7], numbers[8:11], numbers[12:15], {7}, nil}
	g := given{learning{numbers[0:3], rows[:3], numbers[16:19]}, numbers[20:23], numbers[24:27], 2}
	if got := answers(g); !reflect.DeepEqual(got, wantAnswers()) {
		t.Error(got)
	}
	if !slices.Equal(numbers, kept) {
		t.Error(numbers)
	}
	for i, at := range []int{4, 8, 12} {
		if len(rows[i]) != 3 || &rows[i][0] != &numbers[at] {
			t.Error(rows)
		}
	}
	if len(rows[3]) != 1 || rows[4] != nil {
		t.Error(rows)
	}
}

// P4: what is answered is new memory, and nothing is kept.
func TestNewMemory(t *testing.T) {
	g := right()
	for range 3 {
		l, _ := Posterior(g.w, g.c, g.data)
		clear(l[:cap(l)])
		if got := answers(g); !reflect.DeepEqual(g, right()) || !reflect.DeepEqual(got, wantAnswers()) {
			t.Error(g, got)
		}
	}
	// A fault is its own, too.
	_, first := Posterior(g.w, g.c, []int{3})
	_, second := Posterior(g.w, g.c, []int{3})
	var a, b *api.Fault
	if !errors.As(first, &a) || !errors.As(second, &b) || a == b {
		t.Error(first, second)
	}
	// What was handed over may be changed between two calls.
	g.w[0], g.c[1][0], g.data[2], g.p[1], g.n = 0, 5, 1, 4, 1
	want := []any{frac(5, 768), nil, fracs(0, 1, 1, 1, 0, 1), nil, 1, nil, frac(7, 8), nil}
	if got := answers(g); !reflect.DeepEqual(got, want) {
		t.Error(got)
	}
}
