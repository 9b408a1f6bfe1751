package zero

// P94

import (
	"math/big"
	"math/rand"
	"slices"
	"testing"

	"demon/api"
)

func halves() []api.Frac { return fracs(0, 1, 1, 2, 1, 1) }

// greatestSets of which each two have an edge: those to which nothing can be put.
func greatestSets(g Graph) [][]int {
	all := setsJoined(g)
	return slices.DeleteFunc(slices.Clone(all), func(l []int) bool {
		return slices.ContainsFunc(all, func(m []int) bool {
			return len(m) > len(l) && !slices.ContainsFunc(l, func(v int) bool { return !slices.Contains(m, v) })
		})
	})
}

// bestPack by halves: the most.
func bestPack(t *testing.T, g Graph) *big.Rat {
	t.Helper()
	best := new(big.Rat)
	eachWeights(g.N, halves(), func(w []api.Frac) {
		f, pack, err := Packs(g, w)
		if err != nil {
			t.Fatal(g, w, err)
		}
		if pack && rat(f).Cmp(best) > 0 {
			best = rat(f)
		}
	})
	return best
}

// bestCover by halves: the least.
func bestCover(t *testing.T, g Graph) *big.Rat {
	t.Helper()
	best, sets := big.NewRat(int64(g.N+1), 1), greatestSets(g)
	eachWeights(len(sets), halves(), func(w []api.Frac) {
		f, cover, err := Covers(g, sets, w)
		if err != nil {
			t.Fatal(g, w, err)
		}
		if cover && rat(f).Cmp(best) < 0 {
			best = rat(f)
		}
	})
	return best
}

func countAlone(t *testing.T, g Graph) int {
	t.Helper()
	l, err := Alone(g)
	if err != nil {
		t.Fatal(g, err)
	}
	return len(l)
}

// Up to five vertices halves are enough for the best of both, which meet; and only of rings of five fewer stand alone.
func TestPacksMeetCovers(t *testing.T) {
	rings := 0
	for n := range 6 {
		eachGraph(n, func(g Graph) {
			pack, cover, count := bestPack(t, g), bestCover(t, g), big.NewRat(int64(countAlone(t, g)), 1)
			if pack.Cmp(cover) != 0 || count.Cmp(cover) > 0 {
				t.Error(g, pack, cover, count)
			}
			if count.Cmp(cover) < 0 {
				rings++
				if cover.Cmp(big.NewRat(5, 2)) != 0 || count.Cmp(big.NewRat(2, 1)) != 0 {
					t.Error(g, cover, count)
				}
			}
		})
	}
	if rings != 12 {
		t.Error(rings)
	}
}

// The vertices that stand alone pack, and what packs is never above what covers: drawn ones.
func TestSomeBetween(t *testing.T) {
	r := rand.New(rand.NewSource(94))
	packed := 0
	for range 1500 {
		g := someGraph(r, 1+r.Intn(14), someDensity(r))
		alone, err := Alone(g)
		if err != nil {
			t.Fatal(g, err)
		}
		w := many(g.N, frac(0, 1))
		for _, v := range alone {
			w[v] = frac(1, 1)
		}
		if f, pack, err := Packs(g, w); f != frac(len(alone), 1) || !pack || err != nil {
			t.Error(g, alone, f, pack, err)
		}
		sets, shares := someCover(r, g)
		least, cover, err := Covers(g, sets, shares)
		if !cover || err != nil || rat(least).Cmp(big.NewRat(int64(len(alone)), 1)) < 0 {
			t.Error(g, sets, shares, least, cover, err)
		}
		for range 20 {
			for v := range w {
				w[v] = someWeight(r, 1+r.Intn(3), 1+r.Intn(6))
			}
			if f, pack, err := Packs(g, w); err == nil && pack {
				packed++
				if rat(f).Cmp(rat(least)) > 0 {
					t.Error(g, w, f, sets, shares, least)
				}
			}
		}
	}
	if packed < 2000 {
		t.Error(packed)
	}
}

// checkBoth: of two at once there stand alone at least as many as of both, multiplied, and at most what covers both, multiplied.
func checkBoth(t *testing.T, a, b Graph, coverA, coverB *big.Rat) {
	t.Helper()
	g, err := Strong(a, b)
	if err != nil {
		t.Fatal(a, b, err)
	}
	count := countAlone(t, g)
	if low := countAlone(t, a) * countAlone(t, b); count < low {
		t.Error(a, b, count, low)
	}
	if high := new(big.Rat).Mul(coverA, coverB); big.NewRat(int64(count), 1).Cmp(high) > 0 {
		t.Error(a, b, count, high)
	}
}

type coveredGraph struct {
	g     Graph
	cover *big.Rat
}

func allCovered(t *testing.T, n int) []coveredGraph {
	var out []coveredGraph
	eachGraph(n, func(g Graph) { out = append(out, coveredGraph{g, bestCover(t, g)}) })
	return out
}

func TestBothAtOnce(t *testing.T) {
	bySize := make([][]coveredGraph, 6)
	for n := range bySize {
		bySize[n] = allCovered(t, n)
	}
	for m := range bySize {
		for n := range bySize {
			if m*n > 16 {
				continue
			}
			for _, a := range bySize[m] {
				for _, b := range bySize[n] {
					checkBoth(t, a.g, b.g, a.cover, b.cover)
				}
			}
		}
	}
	r := rand.New(rand.NewSource(941))
	for range 500 {
		m := 1 + r.Intn(16)
		a, b := someGraph(r, m, someDensity(r)), someGraph(r, 1+r.Intn(16/m), someDensity(r))
		checkBoth(t, a, b, drawnCover(t, r, a), drawnCover(t, r, b))
	}
}

// drawnCover: what a drawn one has together.
func drawnCover(t *testing.T, r *rand.Rand, g Graph) *big.Rat {
	t.Helper()
	sets, w := someCover(r, g)
	f, cover, err := Covers(g, sets, w)
	if !cover || err != nil {
		t.Error(g, sets, w, f, cover, err)
	}
	return rat(f)
}

// Shannon's pentagon. Two rings at once have more vertices than a graph may have that is told: so the parts are asked that know no bound.
func TestPentagon(t *testing.T) {
	five := ring(5)
	if n := countAlone(t, five); n != 2 {
		t.Error(n)
	}
	two := both(five, five)
	if !sameGraph(two, wantStrong(five, five)) || two.N != 25 {
		t.Error(two)
	}
	if l := alone(two); len(l) != 5 || !slices.Equal(l, wantAlone(two)) {
		t.Error(l)
	}
	if _, err := Strong(five, five); err != api.ErrBound {
		t.Error(err)
	}
	if _, err := Alone(two); err != api.ErrBound {
		t.Error(err)
	}
}

// However the ring of five is numbered, two stand alone, and of any two such rings at once five.
func TestAllPentagons(t *testing.T) {
	var rings []Graph
	eachGraph(5, func(g Graph) {
		if len(g.Edges) == 5 && !slices.ContainsFunc(table(g), func(row []bool) bool { return trues(row) != 2 }) {
			rings = append(rings, g)
		}
	})
	if len(rings) != 12 {
		t.Error(rings)
	}
	for _, a := range rings {
		if n := countAlone(t, a); n != 2 {
			t.Error(a, n)
		}
		for _, b := range rings {
			if l := alone(both(a, b)); len(l) != 5 {
				t.Error(a, b, l)
			}
		}
	}
}

func trues(row []bool) int {
	n := 0
	for _, x := range row {
		if x {
			n++
		}
	}
	return n
}
