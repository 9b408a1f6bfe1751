package zero

// P1 to P4, as far as they speak of package zero.

import (
	"math"
	"reflect"
	"slices"
	"sync"
	"testing"

	"demon/api"
)

func wildNumbers() []int {
	return []int{math.MinInt, -64, -1, 0, 1, 2, 15, 16, 17, 63, 64, 65, 1 << 32, math.MaxInt}
}

func wildGraphs() []Graph {
	out := rightGraphs()
	for _, x := range wrongGraphs() {
		out = append(out, x.g)
	}
	for _, n := range wildNumbers() {
		out = append(out, Graph{N: n}, Graph{N: n, Edges: make([][2]int, 200)})
		for _, k := range wildNumbers() {
			out = append(out, Graph{N: 16, Edges: [][2]int{{n, k}}}, Graph{N: 3, Edges: [][2]int{{0, 1}, {n, k}}})
		}
	}
	return out
}

func wildWeights() [][]api.Frac {
	out := [][]api.Frac{nil, {}, many(16, frac(1, 1)), many(16, frac(-1000, 999)), many(17, frac(0, 1)), make([]api.Frac, 16), make([]api.Frac, 100000), long(), many(64, frac(999, 1000)), many(65, frac(1, 1))}
	for n := range 6 {
		out = append(out, many(n, frac(1, 2)))
	}
	for _, n := range wildNumbers() {
		for _, k := range wildNumbers() {
			out = append(out, fracs(n, k), fracs(0, 1, n, k, 1, 1))
		}
	}
	return out
}

func wildSets() [][][]int {
	out := [][][]int{nil, {}, {nil, {}}, make([][]int, 7), make([][]int, 16), make([][]int, 64), make([][]int, 65), make([][]int, 100000), many(64, many(1000, 0)), {many(100000, 1)}, many(64, []int{0})}
	for _, v := range wildNumbers() {
		out = append(out, [][]int{{v}}, [][]int{{0, 1}, {v}, {1, v}})
	}
	return out
}

// P1 and P3: every call ends without a panic; with an error there is nothing else; a graph's errors come first.
func TestWild(t *testing.T) {
	weights, sets := wildWeights(), wildSets()
	for _, g := range wildGraphs() {
		bad := Valid(g)
		if l, err := Alone(g); err != bad || (len(l) == 0) != (err != nil || g.N == 0) {
			t.Error(g, l, err)
		}
		for _, w := range weights {
			f, pack, err := Packs(g, w)
			checkWild(t, f, pack, err, bad)
			if bad == nil {
				checkWildSets(t, g, sets, w)
			}
		}
		f, cover, err := Covers(g, nil, nil)
		checkWild(t, f, cover, err, bad)
	}
}

func checkWild(t *testing.T, f api.Frac, holds bool, err, bad error) {
	t.Helper()
	if bad != nil && err != bad || (f.Den < 1) != (err != nil) || err != nil && (f != (api.Frac{}) || holds) {
		t.Error(f, holds, err, bad)
	}
}

func checkWildSets(t *testing.T, g Graph, all [][][]int, w []api.Frac) {
	t.Helper()
	for _, sets := range all {
		f, cover, err := Covers(g, sets, w)
		checkWild(t, f, cover, err, nil)
		if len(sets) != len(w) && err != api.ErrShape {
			t.Error(g, len(sets), len(w), err)
		}
	}
}

func TestWildPairs(t *testing.T) {
	all := wildGraphs()
	for _, a := range all {
		bad := Valid(a)
		for _, b := range all {
			g, err := Strong(a, b)
			if bad != nil && err != bad || err != nil && !sameGraph(g, Graph{}) || err == nil && (Valid(g) != nil || g.N != a.N*b.N) {
				t.Error(a, b, g, err)
			}
		}
	}
	for _, n := range wildNumbers() {
		for _, k := range wildNumbers() {
			for _, c := range [][][]int{{{n}, {k}}, {{n, k}}, {{n, 1}, {1, k}}} {
				checkOf(t, c)
			}
		}
	}
}

// answers of all calls of the package.
func answers(a, b Graph, c, sets [][]int, w, x []api.Frac) []any {
	g, err := Of(c)
	out := []any{Valid(a), g, err}
	l, err := Alone(a)
	out = append(out, l, err)
	g, err = Strong(a, b)
	out = append(out, g, err)
	f, holds, err := Packs(a, w)
	out = append(out, f, holds, err)
	f, holds, err = Covers(a, sets, x)
	return append(out, f, holds, err)
}

// checkHolds: nothing is refused, and what is asked holds.
func checkHolds(t *testing.T, l []any) {
	t.Helper()
	for _, x := range l {
		if _, is := x.(error); is || x == false {
			t.Error(l)
		}
	}
}

// P2: the same answers, however many ask at once.
func TestSideBySide(t *testing.T) {
	a, b := ring(5), path(3)
	c, sets := [][]int{{1, 1, 0}, {0, 1, 1}, {1, 0, 0}}, [][]int{{0, 1}, {2, 3}, {4}}
	w, x := many(5, frac(1, 3)), many(3, frac(7, 6))
	want := answers(a, b, c, sets, w, x)
	checkHolds(t, want)
	var all sync.WaitGroup
	for range 16 {
		all.Go(func() {
			for range 30 {
				if got := answers(a, b, c, sets, w, x); !reflect.DeepEqual(got, want) {
					t.Error(got, want)
				}
			}
		})
	}
	all.Wait()
}

// P3 and P4: what lies behind a list's length is left alone, what is handed over is only read.
func TestOnlyRead(t *testing.T) {
	edges := [][2]int{{0, 1}, {1, 2}, {0, 1}, {9, 9}, {0, 1}, {-1, 5}}
	weights := []api.Frac{frac(1, 2), frac(1, 3), frac(1, 2), frac(5, 5), {}, frac(1, 1), frac(1, 1), frac(-1, 1), {}}
	numbers := []int{0, 1, 2, 99, 2, 0, 1, 1, 2, 0, 7, -1}
	sets := [][]int{numbers[0:2], numbers[4:5], {math.MinInt}}
	rows := [][]int{numbers[5:7], numbers[7:9], numbers[9:11], {-1}, nil}
	keptEdges, keptWeights, keptNumbers := slices.Clone(edges), slices.Clone(weights), slices.Clone(numbers)
	a, b := Graph{N: 3, Edges: edges[0:2]}, Graph{N: 2, Edges: edges[4:5]}
	got := answers(a, b, rows[:3], sets[:2], weights[0:3], weights[5:7])
	want := answers(path(3), path(2), [][]int{{0, 1}, {1, 2}, {0, 7}}, [][]int{{0, 1}, {2}}, fracs(1, 2, 1, 3, 1, 2), fracs(1, 1, 1, 1))
	checkHolds(t, want)
	if !reflect.DeepEqual(got, want) {
		t.Error(got, want)
	}
	if !slices.Equal(edges, keptEdges) || !slices.Equal(weights, keptWeights) || !slices.Equal(numbers, keptNumbers) {
		t.Error(edges, weights, numbers)
	}
	if &sets[0][0] != &numbers[0] || &sets[1][0] != &numbers[4] || &rows[2][0] != &numbers[9] || len(sets[2]) != 1 || len(rows[3]) != 1 || rows[4] != nil {
		t.Error(sets, rows)
	}
}

// P4: what is answered is new memory, and nothing is kept.
func TestNewMemory(t *testing.T) {
	g, c := path(3), [][]int{{1, 1, 0}, {0, 1, 1}, {0, 0, 1}}
	for range 3 {
		for _, call := range []func() (Graph, error){
			func() (Graph, error) { return Of(c) },
			func() (Graph, error) { return Strong(g, Graph{N: 1}) },
			func() (Graph, error) { return Strong(Graph{N: 1}, g) },
		} {
			made, err := call()
			if !sameGraph(made, path(3)) || err != nil {
				t.Error(made, err)
			}
			spoilt := made.Edges[:cap(made.Edges)]
			for i := range spoilt {
				spoilt[i] = [2]int{-1, -1}
			}
		}
		l, err := Alone(g)
		if !slices.Equal(l, []int{0, 2}) || err != nil {
			t.Error(l, err)
		}
		l = l[:cap(l)]
		for i := range l {
			l[i] = -1
		}
	}
	if !sameGraph(g, path(3)) || !reflect.DeepEqual(c, [][]int{{1, 1, 0}, {0, 1, 1}, {0, 0, 1}}) {
		t.Error(g, c)
	}
}
