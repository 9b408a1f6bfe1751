package zero

// What the tests hold the package against: the document's words, pair by pair and set by set, sums by math/big.

import (
	"math/big"
	"math/rand"
	"slices"

	"demon/api"
)

func sameGraph(a, b Graph) bool { return a.N == b.N && slices.Equal(a.Edges, b.Edges) }

func many[T any](n int, x T) []T { return slices.Repeat([]T{x}, n) }

func frac(num, den int) api.Frac { return api.Frac{Num: num, Den: den} }

// fracs of numbers: each two are a fraction.
func fracs(l ...int) []api.Frac {
	var out []api.Frac
	for i := 0; i+1 < len(l); i += 2 {
		out = append(out, frac(l[i], l[i+1]))
	}
	return out
}

func complete(n int) Graph {
	g := Graph{N: n}
	for i := range n {
		for k := i + 1; k < n; k++ {
			g.Edges = append(g.Edges, [2]int{i, k})
		}
	}
	return g
}

// ring of n vertices; n is 3 at least.
func ring(n int) Graph {
	g := Graph{N: n}
	for i := range n {
		if i+1 < n {
			g.Edges = append(g.Edges, [2]int{i, i + 1})
		}
		if i == 0 {
			g.Edges = append(g.Edges, [2]int{0, n - 1})
		}
	}
	return g
}

// path of n vertices.
func path(n int) Graph {
	g := Graph{N: n}
	for i := 1; i < n; i++ {
		g.Edges = append(g.Edges, [2]int{i - 1, i})
	}
	return g
}

// others are the edges that g has not.
func others(g Graph) Graph {
	out := Graph{N: g.N}
	for _, e := range complete(g.N).Edges {
		if !slices.Contains(g.Edges, e) {
			out.Edges = append(out.Edges, e)
		}
	}
	return out
}

func hasEdge(g Graph, i, k int) bool { return slices.Contains(g.Edges, [2]int{min(i, k), max(i, k)}) }

// eachGraph of n vertices.
func eachGraph(n int, visit func(g Graph)) {
	all := complete(n).Edges
	for chosen := range 1 << len(all) {
		g := Graph{N: n}
		for i, e := range all {
			if chosen>>i&1 == 1 {
				g.Edges = append(g.Edges, e)
			}
		}
		visit(g)
	}
}

// someGraph of n vertices; most of a hundred edges are there.
func someGraph(r *rand.Rand, n, most int) Graph {
	g := Graph{N: n}
	for _, e := range complete(n).Edges {
		if r.Intn(100) < most {
			g.Edges = append(g.Edges, e)
		}
	}
	return g
}

func someDensity(r *rand.Rand) int { return []int{0, 10, 30, 50, 70, 90, 97, 100}[r.Intn(8)] }

// setsWhere are all sets of vertices, each rising, of which each two are as fit says; the empty one too.
func setsWhere(n int, fit func(i, k int) bool) [][]int {
	out := [][]int{nil}
	for v := range n {
		for _, l := range slices.Clone(out) {
			if !slices.ContainsFunc(l, func(u int) bool { return !fit(u, v) }) {
				out = append(out, append(slices.Clone(l), v))
			}
		}
	}
	return out
}

// table of edges, as edges are slow to look for.
func table(g Graph) [][]bool {
	out := make([][]bool, g.N)
	for i := range out {
		out[i] = make([]bool, g.N)
	}
	for _, e := range g.Edges {
		out[e[0]][e[1]], out[e[1]][e[0]] = true, true
	}
	return out
}

func setsApart(g Graph) [][]int {
	edge := table(g)
	return setsWhere(g.N, func(i, k int) bool { return !edge[i][k] })
}

func setsJoined(g Graph) [][]int {
	edge := table(g)
	return setsWhere(g.N, func(i, k int) bool { return edge[i][k] })
}

func wantAlone(g Graph) []int {
	var best []int
	for _, l := range setsApart(g) {
		if len(l) > len(best) || len(l) == len(best) && slices.Compare(l, best) < 0 {
			best = l
		}
	}
	return best
}

func wantOf(c [][]int) Graph {
	g := Graph{N: len(c)}
	for _, e := range complete(len(c)).Edges {
		for out := range c[0] {
			if c[e[0]][out] != 0 && c[e[1]][out] != 0 && !slices.Contains(g.Edges, e) {
				g.Edges = append(g.Edges, e)
			}
		}
	}
	return g
}

func wantStrong(a, b Graph) Graph {
	g := Graph{N: a.N * b.N}
	for i := range a.N {
		for k := range b.N {
			for j := range a.N {
				for l := range b.N {
					from, to := i*b.N+k, j*b.N+l
					if from < to && (i == j || hasEdge(a, i, j)) && (k == l || hasEdge(b, k, l)) {
						g.Edges = append(g.Edges, [2]int{from, to})
					}
				}
			}
		}
	}
	return g
}

func rat(f api.Frac) *big.Rat { return big.NewRat(int64(f.Num), int64(f.Den)) }

func ratSum(w []api.Frac) *big.Rat {
	out := new(big.Rat)
	for _, f := range w {
		out.Add(out, rat(f))
	}
	return out
}

// wantTold: the sum, or ErrBound where a number of it is above MaxTold in size.
func wantTold(w []api.Frac) (api.Frac, error) {
	sum, most := ratSum(w), big.NewInt(api.MaxTold)
	if sum.Num().CmpAbs(most) > 0 || sum.Denom().Cmp(most) > 0 {
		return api.Frac{}, api.ErrBound
	}
	return frac(int(sum.Num().Int64()), int(sum.Denom().Int64())), nil
}

func someBelow(w []api.Frac) bool {
	return slices.ContainsFunc(w, func(f api.Frac) bool { return f.Num < 0 })
}

// picked are the weights at some places.
func picked(w []api.Frac, places []int) []api.Frac {
	var out []api.Frac
	for _, i := range places {
		out = append(out, w[i])
	}
	return out
}

func wantPacks(g Graph, w []api.Frac) bool {
	return !someBelow(w) && !slices.ContainsFunc(setsJoined(g), func(l []int) bool {
		return ratSum(picked(w, l)).Cmp(big.NewRat(1, 1)) > 0
	})
}

func wantCovers(g Graph, sets [][]int, w []api.Frac) bool {
	joined := setsJoined(g)
	for _, l := range sets {
		if !slices.ContainsFunc(joined, func(j []int) bool { return slices.Equal(l, j) }) {
			return false
		}
	}
	for v := range g.N {
		var places []int
		for i, l := range sets {
			if slices.Contains(l, v) {
				places = append(places, i)
			}
		}
		if ratSum(picked(w, places)).Cmp(big.NewRat(1, 1)) < 0 {
			return false
		}
	}
	return !someBelow(w)
}

// someWeight in its lowest terms: its numbers are at most num and den.
func someWeight(r *rand.Rand, num, den int) api.Frac {
	x := big.NewRat(int64(r.Intn(num+1)), int64(1+r.Intn(den)))
	return frac(int(x.Num().Int64()), int(x.Denom().Int64()))
}
