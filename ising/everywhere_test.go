package ising

// P1 to P4, as far as they speak of package ising.

import (
	"math"
	"reflect"
	"slices"
	"sync"
	"testing"

	"demon/api"
)

func wildNumbers() []int {
	return []int{math.MinInt, math.MinInt32, -64, -1, 0, 1, 2, 3, 4, 5, 11, 12, 13, 14, 15, 30, 31, 62, 63, 64, 65, 1000, 1001, 1 << 20, 1<<20 + 1, 1 << 32, 1 << 62, math.MaxInt}
}

func wildSystems() []System {
	out := rightSystems()
	for _, x := range wrongSystems() {
		out = append(out, x.s)
	}
	for _, n := range wildNumbers() {
		out = append(out, System{N: n}, System{N: n, Bonds: make([][2]int, 30)}, System{N: n, Bonds: make([][2]int, 31)})
		for _, k := range wildNumbers() {
			out = append(out, System{N: 4, Bonds: [][2]int{{n, k}}}, System{N: 3, Bonds: [][2]int{{0, 1}, {n, k}}}, System{N: n, Bonds: [][2]int{{k, 0}}})
		}
	}
	return out
}

// P1 and P3: every call ends without a panic; with an error there is nothing else, and it is bare.
func TestWild(t *testing.T) {
	for _, s := range wildSystems() {
		bad := Valid(s)
		if bad != nil && bad != api.ErrBound && bad != api.ErrShape {
			t.Error(s, bad)
		}
		for _, call := range []func(System) ([]int, error){States, Even} {
			l, err := call(s)
			if err != bad || err == nil && len(l) != len(s.Bonds)+1 || err != nil && len(l) != 0 {
				t.Error(s, l, err)
			}
		}
	}
	for _, high := range wildNumbers() {
		for _, long := range wildNumbers() {
			for _, ring := range []bool{false, true} {
				if l, err := Strip(high, long, ring); (len(l) == 0) != (err != nil) || err != nil && err != api.ErrBound && err != api.ErrShape {
					t.Error(high, long, ring, l, err)
				}
			}
			for _, call := range []func(high, long int) (System, error){Grid, Faces} {
				if s, err := call(high, long); (s.N == 0) != (err != nil) || err != nil && (len(s.Bonds) > 0 || err != api.ErrBound) {
					t.Error(high, long, s, err)
				}
			}
		}
	}
}

func TestWildMeans(t *testing.T) {
	lists := [][]int{nil, {}, {0}, {1}, many(31, 1<<20), many(32, 1), make([]int, 31), make([]int, 100000)}
	for _, n := range wildNumbers() {
		lists = append(lists, []int{n}, []int{0, n, 1}, append(make([]int, 30), n))
	}
	known := []error{nil, api.ErrBound, api.ErrShape, api.ErrNone}
	for _, l := range lists {
		for _, num := range wildNumbers() {
			for _, den := range wildNumbers() {
				if f, err := Mean(l, frac(num, den)); (f.Den < 1) != (err != nil) || err != nil && f != (api.Frac{}) || !slices.Contains(known, err) {
					t.Error(l, num, den, f, err)
				}
			}
		}
	}
}

// answers of all calls of the package.
func answers(s System, high, long int, ring bool, counts []int, x api.Frac) []any {
	out := []any{Valid(s)}
	l, err := States(s)
	out = append(out, l, err)
	l, err = Even(s)
	out = append(out, l, err)
	l, err = Strip(high, long, ring)
	out = append(out, l, err)
	g, err := Grid(high, long)
	out = append(out, g, err)
	g, err = Faces(high, long)
	out = append(out, g, err)
	f, err := Mean(counts, x)
	return append(out, f, err)
}

func checkNoError(t *testing.T, l []any) {
	t.Helper()
	for _, x := range l {
		if _, is := x.(error); is {
			t.Error(l)
		}
	}
}

// P2: the same answers, however many ask at once.
func TestSideBySide(t *testing.T) {
	s, counts := ring(7), []int{2, 0, 12, 0, 2}
	want := answers(s, 3, 4, true, counts, frac(2, 3))
	checkNoError(t, want)
	var all sync.WaitGroup
	for range 16 {
		all.Go(func() {
			for range 20 {
				if got := answers(s, 3, 4, true, counts, frac(2, 3)); !reflect.DeepEqual(got, want) {
					t.Error(got, want)
				}
			}
		})
	}
	all.Wait()
}

// P3 and P4: what lies behind a list's length is left alone, what is handed over is only read.
func TestOnlyRead(t *testing.T) {
	bonds := [][2]int{{0, 1}, {1, 2}, {2, 0}, {9, 9}, {0, 1}, {-1, 5}}
	counts := []int{2, 0, 6, 0, -1, 1 << 30}
	keptBonds, keptCounts := slices.Clone(bonds), slices.Clone(counts)
	got := answers(System{N: 3, Bonds: bonds[:3]}, 2, 3, true, counts[:4], frac(1, 2))
	want := answers(ring(3), 2, 3, true, []int{2, 0, 6, 0}, frac(1, 2))
	checkNoError(t, want)
	if !reflect.DeepEqual(got, want) {
		t.Error(got, want)
	}
	if !slices.Equal(bonds, keptBonds) || !slices.Equal(counts, keptCounts) {
		t.Error(bonds, counts)
	}
}

// P4: what is answered is new memory, and nothing is kept.
func TestNewMemory(t *testing.T) {
	s := ring(3)
	for range 3 {
		for _, x := range []struct {
			call func() ([]int, error)
			want []int
		}{
			{func() ([]int, error) { return States(s) }, []int{2, 0, 6, 0}},
			{func() ([]int, error) { return Even(s) }, []int{1, 0, 0, 1}},
			{func() ([]int, error) { return Strip(1, 3, true) }, []int{2, 0, 6, 0}},
		} {
			l, err := x.call()
			if !slices.Equal(l, x.want) || err != nil {
				t.Error(l, x.want, err)
			}
			l = l[:cap(l)]
			for i := range l {
				l[i] = -1
			}
		}
		for i, call := range []func(high, long int) (System, error){Grid, Faces} {
			made, err := call(2, 3)
			if !sameSystem(made, []System{wantSystem(2, 3, false), wantFaces(2, 3)}[i]) || err != nil {
				t.Error(made, err)
			}
			spoilt := made.Bonds[:cap(made.Bonds)]
			for k := range spoilt {
				spoilt[k] = [2]int{-1, -1}
			}
		}
	}
	if !sameSystem(s, ring(3)) {
		t.Error(s)
	}
}
