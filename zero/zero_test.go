package zero

import (
	"math"
	"math/rand"
	"slices"
	"testing"

	"demon/api"
	"demon/channel"
)

// P90

type graphCase struct {
	g   Graph
	err error
}

func wrongGraphs() []graphCase {
	most, least := math.MaxInt, math.MinInt
	return []graphCase{
		{Graph{N: -1}, api.ErrBound},
		{Graph{N: 17}, api.ErrBound},
		{Graph{N: most}, api.ErrBound},
		{Graph{N: least}, api.ErrBound},
		// The bound comes ahead of shapes.
		{Graph{N: 17, Edges: [][2]int{{1, 0}}}, api.ErrBound},
		{Graph{N: -1, Edges: [][2]int{{-2, -1}}}, api.ErrBound},
		{Graph{N: 0, Edges: [][2]int{{0, 0}}}, api.ErrShape},
		{Graph{N: 0, Edges: [][2]int{{0, 1}}}, api.ErrShape},
		{Graph{N: 1, Edges: [][2]int{{0, 0}}}, api.ErrShape},
		{Graph{N: 1, Edges: [][2]int{{0, 1}}}, api.ErrShape},
		{Graph{N: 2, Edges: [][2]int{{1, 0}}}, api.ErrShape},
		{Graph{N: 2, Edges: [][2]int{{1, 1}}}, api.ErrShape},
		{Graph{N: 2, Edges: [][2]int{{0, 2}}}, api.ErrShape},
		{Graph{N: 2, Edges: [][2]int{{-1, 0}}}, api.ErrShape},
		{Graph{N: 2, Edges: [][2]int{{-1, 1}}}, api.ErrShape},
		{Graph{N: 2, Edges: [][2]int{{least, 1}}}, api.ErrShape},
		{Graph{N: 2, Edges: [][2]int{{0, most}}}, api.ErrShape},
		{Graph{N: 2, Edges: [][2]int{{most, least}}}, api.ErrShape},
		{Graph{N: 16, Edges: [][2]int{{0, 16}}}, api.ErrShape},
		{Graph{N: 16, Edges: [][2]int{{15, 16}}}, api.ErrShape},
		// Each one is an edge, but they do not rise strictly.
		{Graph{N: 2, Edges: [][2]int{{0, 1}, {0, 1}}}, api.ErrShape},
		{Graph{N: 3, Edges: [][2]int{{0, 2}, {0, 1}}}, api.ErrShape},
		{Graph{N: 3, Edges: [][2]int{{1, 2}, {0, 2}}}, api.ErrShape},
		{Graph{N: 4, Edges: [][2]int{{1, 2}, {0, 3}}}, api.ErrShape},
		{Graph{N: 4, Edges: [][2]int{{0, 1}, {0, 2}, {0, 2}, {1, 2}}}, api.ErrShape},
		{Graph{N: 4, Edges: [][2]int{{0, 1}, {0, 3}, {2, 3}, {1, 3}}}, api.ErrShape},
		// Only the last one is wrong.
		{Graph{N: 16, Edges: append(complete(16).Edges, [2]int{14, 15})}, api.ErrShape},
		{Graph{N: 16, Edges: append(complete(16).Edges, [2]int{15, 16})}, api.ErrShape},
		{Graph{N: 2, Edges: many(100000, [2]int{0, 1})}, api.ErrShape},
	}
}

func rightGraphs() []Graph {
	out := []Graph{{}, {Edges: [][2]int{}}, {N: 1}, {N: 16}, {N: 16, Edges: [][2]int{{14, 15}}}, {N: 16, Edges: [][2]int{{0, 15}, {1, 2}}}, {N: 4, Edges: [][2]int{{0, 3}, {1, 2}}}}
	for n := range 17 {
		out = append(out, complete(n), path(n))
	}
	for n := 3; n <= 16; n++ {
		out = append(out, ring(n), others(ring(n)))
	}
	return out
}

func TestValid(t *testing.T) {
	for _, x := range wrongGraphs() {
		if err := Valid(x.g); err != x.err {
			t.Error(x, err)
		}
	}
	for _, g := range rightGraphs() {
		if err := Valid(g); err != nil {
			t.Error(g, err)
		}
	}
}

// Of all lists of up to three pairs of numbers around 3 vertices only those that rise strictly, of edges, are right.
func TestSmallValid(t *testing.T) {
	var pairs [][2]int
	for i := -1; i <= 3; i++ {
		for k := -1; k <= 3; k++ {
			pairs = append(pairs, [2]int{i, k})
		}
	}
	right := map[triple]int{}
	eachGraph(3, func(g Graph) { right[tripleOf(g.Edges)]++ })
	check := func(l ...[2]int) {
		var want error
		if right[tripleOf(l)] == 0 {
			want = api.ErrShape
		}
		if err := Valid(Graph{N: 3, Edges: l}); err != want {
			t.Error(l, err)
		}
	}
	check()
	for _, a := range pairs {
		check(a)
		for _, b := range pairs {
			check(a, b)
			for _, c := range pairs {
				check(a, b, c)
			}
		}
	}
	if len(right) != 8 {
		t.Error(right)
	}
}

// triple of edges, at most, as a key.
type triple struct {
	n int
	l [3][2]int
}

func tripleOf(l [][2]int) triple {
	out := triple{n: len(l)}
	copy(out.l[:], l)
	return out
}

func TestOf(t *testing.T) {
	for _, x := range []struct {
		c    [][]int
		want Graph
	}{
		{[][]int{{1}}, Graph{N: 1}},
		{[][]int{{1, 0}, {0, 1}}, Graph{N: 2}},
		{[][]int{{1}, {256}}, complete(2)},
		{[][]int{{1, 1, 0}, {0, 1, 1}, {0, 0, 1}}, path(3)},
		{[][]int{{0, 0, 1}, {1, 1, 0}, {0, 1, 1}}, Graph{N: 3, Edges: [][2]int{{0, 2}, {1, 2}}}},
		// More symbols come out than go in, and the other way round.
		{[][]int{{1, 0, 0, 0, 7}, {0, 2, 0, 0, 9}}, complete(2)},
		{[][]int{{1, 0}, {0, 3}, {5, 0}, {0, 250}}, Graph{N: 4, Edges: [][2]int{{0, 2}, {1, 3}}}},
		// Each symbol may be taken for the next one, of five, in a ring.
		{[][]int{{1, 1, 0, 0, 0}, {0, 1, 1, 0, 0}, {0, 0, 1, 1, 0}, {0, 0, 0, 1, 1}, {1, 0, 0, 0, 1}}, ring(5)},
		// Two symbols that both come of two make one edge.
		{[][]int{{3, 1}, {1, 3}}, complete(2)},
		{many(16, many(16, 16)), complete(16)},
		{many(16, many(1, 1)), complete(16)},
	} {
		if g, err := Of(x.c); !sameGraph(g, x.want) || err != nil {
			t.Error(x, g, err)
		}
	}
}

func wrongChannels() [][][]int {
	return [][][]int{nil, {}, {nil}, {{}, {}}, {{1}, {1, 1}}, {{1, 1}, {1}}, {{0}}, {{1, 0}, {0, 0}}, {{1, -1}}, {{257}}, {{200, 57}}, {{math.MaxInt, math.MaxInt}}, many(17, []int{1}), {many(17, 1)}, {{math.MinInt}}, {{257}, {-1}}, {{257}, {1, 1}}, many(17, []int{})}
}

func TestOfRefuses(t *testing.T) {
	for _, c := range wrongChannels() {
		g, err := Of(c)
		if err == nil || err != channel.Valid(c) || !sameGraph(g, Graph{}) {
			t.Error(c, g, err)
		}
	}
}

// All channels of some sizes with weights up to 1, and drawn ones.
func TestSomeOf(t *testing.T) {
	for _, size := range []struct{ rows, columns int }{{1, 1}, {1, 3}, {2, 1}, {2, 2}, {2, 4}, {3, 3}, {4, 2}, {5, 2}, {4, 3}} {
		for chosen := range 1 << (size.rows * size.columns) {
			c := make([][]int, size.rows)
			for i := range c {
				for k := range size.columns {
					c[i] = append(c[i], chosen>>(i*size.columns+k)&1)
				}
			}
			checkOf(t, c)
		}
	}
	r := rand.New(rand.NewSource(90))
	edges := 0
	for range 3000 {
		c, columns, most := make([][]int, 1+r.Intn(16)), 1+r.Intn(16), []int{3, 10, 30}[r.Intn(3)]
		for i := range c {
			c[i] = make([]int, columns)
			c[i][r.Intn(columns)] = 16
			for k := range c[i] {
				if r.Intn(most) == 0 {
					c[i][k] = 1 + r.Intn(15)
				}
			}
		}
		edges += checkOf(t, c)
	}
	if edges < 10000 {
		t.Error(edges)
	}
}

// checkOf tells how many edges there are.
func checkOf(t *testing.T, c [][]int) int {
	t.Helper()
	g, err := Of(c)
	if bad := channel.Valid(c); bad != nil {
		if err != bad || !sameGraph(g, Graph{}) {
			t.Error(c, g, err)
		}
		return 0
	}
	if err != nil || Valid(g) != nil || !sameGraph(g, wantOf(c)) {
		t.Error(c, g, err)
	}
	return len(g.Edges)
}

// P92

func TestStrong(t *testing.T) {
	for _, x := range []struct{ a, b, want Graph }{
		{Graph{N: 2, Edges: [][2]int{{0, 1}}}, Graph{N: 2}, Graph{N: 4, Edges: [][2]int{{0, 2}, {1, 3}}}},
		{Graph{N: 2}, Graph{N: 2, Edges: [][2]int{{0, 1}}}, Graph{N: 4, Edges: [][2]int{{0, 1}, {2, 3}}}},
		{complete(2), complete(2), complete(4)},
		{complete(4), complete(4), complete(16)},
		{Graph{N: 4}, Graph{N: 4}, Graph{N: 16}},
		{Graph{N: 1}, ring(5), ring(5)},
		{ring(5), Graph{N: 1}, ring(5)},
		{complete(2), path(3), Graph{N: 6, Edges: [][2]int{{0, 1}, {0, 3}, {0, 4}, {1, 2}, {1, 3}, {1, 4}, {1, 5}, {2, 4}, {2, 5}, {3, 4}, {4, 5}}}},
		{path(3), complete(2), Graph{N: 6, Edges: [][2]int{{0, 1}, {0, 2}, {0, 3}, {1, 2}, {1, 3}, {2, 3}, {2, 4}, {2, 5}, {3, 4}, {3, 5}, {4, 5}}}},
		{Graph{}, Graph{}, Graph{}},
		{Graph{}, complete(16), Graph{}},
		{complete(16), Graph{}, Graph{}},
		{Graph{N: 1}, complete(16), complete(16)},
		{complete(8), complete(2), complete(16)},
	} {
		if g, err := Strong(x.a, x.b); !sameGraph(g, x.want) || err != nil {
			t.Error(x, g, err)
		}
	}
}

func TestStrongRefuses(t *testing.T) {
	for _, x := range [][2]Graph{{ring(5), ring(5)}, {{N: 16}, {N: 16}}, {{N: 2}, {N: 9}}, {{N: 5}, {N: 4}}, {complete(16), {N: 2}}, {{N: 4}, {N: 5}}, {{N: 3}, {N: 6}}} {
		if g, err := Strong(x[0], x[1]); !sameGraph(g, Graph{}) || err != api.ErrBound {
			t.Error(x, g, err)
		}
	}
	// The errors of the first one come ahead of those of the second one, and both ahead of too many vertices.
	for _, x := range wrongGraphs() {
		for _, b := range []Graph{{}, {N: 2}, {N: 17}, {N: 2, Edges: [][2]int{{1, 0}}}, complete(16)} {
			if g, err := Strong(x.g, b); !sameGraph(g, Graph{}) || err != x.err {
				t.Error(x, b, g, err)
			}
		}
		for _, a := range []Graph{{}, {N: 2}, complete(16)} {
			if g, err := Strong(a, x.g); !sameGraph(g, Graph{}) || err != x.err {
				t.Error(a, x, g, err)
			}
		}
	}
}

func checkStrong(t *testing.T, a, b Graph) {
	t.Helper()
	g, err := Strong(a, b)
	if err != nil || Valid(g) != nil || !sameGraph(g, wantStrong(a, b)) {
		t.Error(a, b, g, err)
	}
}

func TestSomeStrong(t *testing.T) {
	for m := range 4 {
		eachGraph(m, func(a Graph) {
			for n := range 5 {
				eachGraph(n, func(b Graph) { checkStrong(t, a, b); checkStrong(t, b, a) })
			}
		})
	}
	r := rand.New(rand.NewSource(92))
	for range 2000 {
		m := 1 + r.Intn(16)
		n := 1 + r.Intn(16/m)
		checkStrong(t, someGraph(r, m, someDensity(r)), someGraph(r, n, someDensity(r)))
	}
}

// P91

func TestAlone(t *testing.T) {
	for _, x := range []struct {
		g    Graph
		want []int
	}{
		{Graph{}, nil},
		{Graph{N: 1}, []int{0}},
		{complete(2), []int{0}},
		{complete(16), []int{0}},
		{Graph{N: 16}, []int{0, 1, 2, 3, 4, 5, 6, 7, 8, 9, 10, 11, 12, 13, 14, 15}},
		{ring(5), []int{0, 2}},
		{others(ring(5)), []int{0, 1}},
		{ring(16), []int{0, 2, 4, 6, 8, 10, 12, 14}},
		{ring(15), []int{0, 2, 4, 6, 8, 10, 12}},
		{path(16), []int{0, 2, 4, 6, 8, 10, 12, 14}},
		{path(4), []int{0, 2}},
		{path(5), []int{0, 2, 4}},
		// The first vertex is in none of the greatest.
		{Graph{N: 4, Edges: [][2]int{{0, 1}, {0, 2}, {0, 3}}}, []int{1, 2, 3}},
		{Graph{N: 5, Edges: [][2]int{{0, 2}, {0, 3}, {0, 4}, {1, 2}}}, []int{1, 3, 4}},
		// The first in order begins as low as it can, though a later one is found as soon.
		{Graph{N: 4, Edges: [][2]int{{0, 1}, {0, 2}, {1, 2}}}, []int{0, 3}},
		{Graph{N: 6, Edges: [][2]int{{0, 1}, {0, 2}, {0, 3}, {1, 2}, {1, 3}, {4, 5}}}, []int{2, 3, 4}},
		{Graph{N: 16, Edges: [][2]int{{14, 15}}}, []int{0, 1, 2, 3, 4, 5, 6, 7, 8, 9, 10, 11, 12, 13, 14}},
	} {
		if l, err := Alone(x.g); !slices.Equal(l, x.want) || err != nil {
			t.Error(x, l, err)
		}
	}
}

func TestAloneRefuses(t *testing.T) {
	for _, x := range wrongGraphs() {
		if l, err := Alone(x.g); len(l) != 0 || err != x.err {
			t.Error(x, l, err)
		}
	}
}

func checkAlone(t *testing.T, g Graph) {
	t.Helper()
	if l, err := Alone(g); !slices.Equal(l, wantAlone(g)) || err != nil {
		t.Error(g, l, wantAlone(g), err)
	}
}

func TestSomeAlone(t *testing.T) {
	for n := range 7 {
		eachGraph(n, func(g Graph) { checkAlone(t, g) })
	}
	r := rand.New(rand.NewSource(91))
	for range 1000 {
		checkAlone(t, someGraph(r, 7+r.Intn(7), someDensity(r)))
	}
	for range 300 {
		checkAlone(t, someGraph(r, 14+r.Intn(3), 20+r.Intn(80)))
	}
}
