package zero

import (
	"math"
	"math/rand"
	"slices"
	"testing"

	"demon/api"
)

// P93

func TestPacks(t *testing.T) {
	half, third, zero, one := frac(1, 2), frac(1, 3), frac(0, 1), frac(1, 1)
	for _, x := range []struct {
		g    Graph
		w    []api.Frac
		sum  api.Frac
		pack bool
	}{
		{Graph{}, nil, zero, true},
		{Graph{}, []api.Frac{}, zero, true},
		{Graph{N: 1}, []api.Frac{zero}, zero, true},
		{Graph{N: 1}, []api.Frac{one}, one, true},
		// Also a vertex by itself is at most 1.
		{Graph{N: 1}, fracs(1000, 999), frac(1000, 999), false},
		{Graph{N: 2}, fracs(0, 1, 2, 1), frac(2, 1), false},
		{Graph{N: 3}, fracs(1, 1, 1, 1, 1, 1), frac(3, 1), true},
		{ring(5), many(5, half), frac(5, 2), true},
		{ring(5), fracs(1, 2, 1, 2, 1, 2, 1, 2, 501, 1000), frac(2501, 1000), false},
		{ring(5), fracs(1, 1, 0, 1, 1, 1, 0, 1, 0, 1), frac(2, 1), true},
		// Each two are at most 1, but not all three.
		{complete(3), many(3, half), frac(3, 2), false},
		{complete(3), many(3, third), one, true},
		{path(3), many(3, half), frac(3, 2), true},
		{complete(3), fracs(1, 3, 1, 3, 333, 1000), frac(2999, 3000), true},
		{complete(3), fracs(1, 3, 1, 3, 167, 500), frac(1501, 1500), false},
		{complete(16), many(16, frac(1, 16)), one, true},
		{complete(16), append(many(15, frac(1, 16)), frac(1, 15)), frac(241, 240), false},
		{complete(16), many(16, zero), zero, true},
		{complete(16), append(many(15, zero), one), one, true},
		{Graph{N: 16}, many(16, one), frac(16, 1), true},
		{Graph{N: 16}, append(many(15, one), frac(2, 1)), frac(17, 1), false},
		// What is below 0 does not pack, and its sum is told all the same.
		{Graph{N: 1}, fracs(-1, 3), frac(-1, 3), false},
		{Graph{N: 2}, fracs(-1, 3, 1, 3), zero, false},
		{complete(2), fracs(-1, 2, 1, 1), half, false},
		{Graph{N: 3}, fracs(-1000, 1, -1000, 1, -999, 1000), frac(-2000999, 1000), false},
		{Graph{N: 16}, many(16, frac(-1000, 1)), frac(-16000, 1), false},
	} {
		if f, pack, err := Packs(x.g, x.w); f != x.sum || pack != x.pack || err != nil {
			t.Error(x, f, pack, err)
		}
	}
}

func wrongFractions() []api.Frac {
	most, least := math.MaxInt, math.MinInt
	return fracs(2, 2, 0, 2, 0, 0, 0, 1000, 1, 0, 1, -1, -1, -1, 6, 4, -6, 4, 1000, 2, 1001, 1, -1001, 1, 1, 1001, 1001, 1000, 999, 1001, 1, most, 1, least, most, 1, least, 1, least, least, most, most, least, most, 0, -1, 500, 1000, -500, 1000)
}

func TestPacksRefuses(t *testing.T) {
	zero := frac(0, 1)
	refused := func(g Graph, w []api.Frac, want error) {
		t.Helper()
		if f, pack, err := Packs(g, w); f != (api.Frac{}) || pack || err != want {
			t.Error(g, w, f, pack, err)
		}
	}
	for _, x := range wrongGraphs() {
		for _, w := range [][]api.Frac{nil, {zero}, {zero, zero}, many(2, frac(2, 2)), many(17, zero)} {
			refused(x.g, w, x.err)
		}
	}
	refused(Graph{}, []api.Frac{zero}, api.ErrShape)
	refused(Graph{N: 1}, nil, api.ErrShape)
	refused(Graph{N: 2}, many(1, zero), api.ErrShape)
	refused(Graph{N: 2}, many(3, zero), api.ErrShape)
	refused(Graph{N: 16}, many(17, zero), api.ErrShape)
	refused(Graph{N: 16}, many(100000, zero), api.ErrShape)
	for _, f := range wrongFractions() {
		refused(Graph{N: 1}, []api.Frac{f}, api.ErrShape)
		refused(ring(3), []api.Frac{zero, zero, f}, api.ErrShape)
		refused(ring(3), []api.Frac{f, frac(-1, 2), zero}, api.ErrShape)
		// Shapes come ahead of a sum that is too long.
		refused(Graph{N: 8}, append(slices.Clone(long()), f), api.ErrShape)
	}
	refused(Graph{N: 7}, long(), api.ErrBound)
	refused(complete(7), long(), api.ErrBound)
}

// long: seven weights whose sum has a denominator of 70 bits.
func long() []api.Frac { return fracs(1, 997, 1, 991, 1, 983, 1, 977, 1, 971, 1, 967, 1, 953) }

type edgeCase struct {
	w   []api.Frac
	sum api.Frac
	err error
}

func minus(w []api.Frac) []api.Frac {
	out := slices.Clone(w)
	for i := range out {
		out[i].Num = -out[i].Num
	}
	return out
}

// edgeCases: sums of which a number is just at MaxTold, or just above it, and ones that cancel. Only those with the sum 7 pack.
func edgeCases() []edgeCase {
	den := 997 * 991 * 983 * 977 * 971 * 967
	at := fracs(551, 997, 523, 991, 583, 983, 248, 977, 850, 971, 361, 967, 2, 1)
	below := fracs(723, 997, 4, 991, 630, 983, 63, 977, 734, 971, 953, 967, 2, 1)
	above := fracs(379, 997, 51, 991, 536, 983, 433, 977, 966, 971, 736, 967, 2, 1)
	lastDen := fracs(1, 271, 1, 277, 1, 349, 1, 367, 1, 719, 1, 773, -1, 863)
	nextDen := fracs(1, 181, 1, 227, 1, 337, 1, 419, 1, 821, 1, 977, -1, 991)
	last, _ := wantTold(lastDen)
	return []edgeCase{
		{at, frac(api.MaxTold, den), nil},
		{minus(at), frac(-api.MaxTold, den), nil},
		{below, frac(api.MaxTold-1, den), nil},
		{minus(below), frac(1-api.MaxTold, den), nil},
		{above, api.Frac{}, api.ErrBound},
		{minus(above), api.Frac{}, api.ErrBound},
		{lastDen, last, nil},
		{minus(lastDen), frac(-last.Num, last.Den), nil},
		{nextDen, api.Frac{}, api.ErrBound},
		{minus(nextDen), api.Frac{}, api.ErrBound},
		{minus(long()), api.Frac{}, api.ErrBound},
		// Long denominators that cancel.
		{slices.Concat(long(), minus(long())), frac(0, 1), nil},
		{slices.Concat(long(), minus(long()), fracs(-7, 3)), frac(-7, 3), nil},
		{slices.Concat(fracs(996, 997, 990, 991, 982, 983, 976, 977, 970, 971, 966, 967, 952, 953), long()), frac(7, 1), nil},
		// All but one of the long ones cancel.
		{slices.Concat(long(), minus(long()[1:])), frac(1, 997), nil},
	}
}

func TestEdgesOfSums(t *testing.T) {
	if last, err := wantTold(edgeCases()[6].w); err != nil || last.Den != 4611686018424271541 {
		t.Error(last, err)
	}
	for _, x := range edgeCases() {
		if f, err := wantTold(x.w); f != x.sum || err != x.err {
			t.Error(x, f, err)
		}
		if f, pack, err := Packs(Graph{N: len(x.w)}, x.w); f != x.sum || pack != (x.sum == frac(7, 1)) || err != x.err {
			t.Error(x, f, pack, err)
		}
		if f, cover, err := Covers(Graph{N: 1}, make([][]int, len(x.w)), x.w); f != x.sum || cover || err != x.err {
			t.Error(x, f, cover, err)
		}
		// As often as it may be, with as much that is taken away again.
		w := x.w
		for len(w)+2 <= 64 {
			w = append(slices.Clone(w), fracs(1, 1000-len(w), -1, 1000-len(w))...)
		}
		if f, cover, err := Covers(Graph{}, make([][]int, len(w)), w); f != x.sum || cover || err != x.err {
			t.Error(x, f, cover, err)
		}
	}
}

func TestCovers(t *testing.T) {
	half, zero, one := frac(1, 2), frac(0, 1), frac(1, 1)
	sides := [][]int{{0, 1}, {0, 4}, {1, 2}, {2, 3}, {3, 4}}
	for _, x := range []struct {
		g     Graph
		sets  [][]int
		w     []api.Frac
		sum   api.Frac
		cover bool
	}{
		{Graph{}, nil, nil, zero, true},
		{Graph{}, [][]int{{}}, fracs(3, 2), frac(3, 2), true},
		{Graph{N: 1}, nil, nil, zero, false},
		{Graph{N: 1}, [][]int{{}}, fracs(1, 1), one, false},
		{Graph{N: 1}, [][]int{{0}}, fracs(1, 1), one, true},
		{Graph{N: 1}, [][]int{{0}}, fracs(999, 1000), frac(999, 1000), false},
		{Graph{N: 1}, [][]int{{0}}, fracs(1000, 1), frac(1000, 1), true},
		{Graph{N: 1}, [][]int{{0}, {0}}, fracs(1, 3, 2, 3), one, true},
		{Graph{N: 1}, [][]int{{0}, {0}}, fracs(1, 3, 665, 998), frac(2993, 2994), false},
		{ring(5), sides, many(5, half), frac(5, 2), true},
		{ring(5), sides, fracs(1, 2, 1, 2, 1, 2, 1, 2, 499, 1000), frac(2499, 1000), false},
		{ring(5), sides, fracs(1, 1, 0, 1, 0, 1, 1, 1, 1, 1), frac(3, 1), true},
		{ring(5), [][]int{{0, 1}, {2, 3}, {4}}, many(3, one), frac(3, 1), true},
		{ring(5), [][]int{{0, 1}, {2, 3}}, many(2, one), frac(2, 1), false},
		// A set that does not rise, or has a vertex twice.
		{ring(5), [][]int{{1, 0}, {2, 3}, {4}}, many(3, one), frac(3, 1), false},
		{ring(5), [][]int{{0, 1}, {2, 3}, {4, 4}}, many(3, one), frac(3, 1), false},
		{complete(3), [][]int{{0, 1, 2}}, fracs(1, 1), one, true},
		{complete(3), [][]int{{0, 2, 1}}, fracs(1, 1), one, false},
		{complete(3), [][]int{{0, 1, 2, 2}}, fracs(1, 1), one, false},
		{complete(3), [][]int{many(100000, 2)}, fracs(1, 1), one, false},
		// Two that have no edge, first to last or in between.
		{path(3), [][]int{{0, 1, 2}}, fracs(1, 1), one, false},
		{Graph{N: 3, Edges: [][2]int{{0, 1}, {0, 2}}}, [][]int{{0, 1, 2}}, fracs(1, 1), one, false},
		{Graph{N: 3, Edges: [][2]int{{0, 2}, {1, 2}}}, [][]int{{0, 1, 2}}, fracs(1, 1), one, false},
		// A set of weight 0 must be one too, and what covers may be too much.
		{path(3), [][]int{{0, 1}, {2}, {0, 2}}, fracs(1, 1, 1, 1, 0, 1), frac(2, 1), false},
		{path(3), [][]int{{0, 1}, {2}, {1, 2}}, fracs(1, 1, 1, 1, 0, 1), frac(2, 1), true},
		{path(3), [][]int{{0, 1}, {2}, {}}, fracs(1, 1, 7, 2, 1, 6), frac(14, 3), true},
		// What is below 0 does not cover, and its sum is told all the same.
		{Graph{N: 1}, [][]int{{0}, {0}}, fracs(2, 1, -1, 1), one, false},
		{Graph{N: 1}, [][]int{{0}, {}}, fracs(1, 1, -3, 2), frac(-1, 2), false},
		{Graph{}, [][]int{{}}, fracs(-1, 1), frac(-1, 1), false},
		{Graph{N: 1}, many(64, []int{0}), many(64, frac(1, 64)), one, true},
		{Graph{N: 1}, many(64, []int{0}), append(many(63, frac(1, 64)), frac(1, 65)), frac(4159, 4160), false},
		{Graph{N: 1}, many(64, []int{0}), append(many(63, frac(1, 64)), frac(-1, 64)), frac(31, 32), false},
		{Graph{N: 1}, many(64, []int{}), many(64, frac(-1000, 1)), frac(-64000, 1), false},
		{complete(16), [][]int{{0, 1, 2, 3, 4, 5, 6, 7, 8, 9, 10, 11, 12, 13, 14, 15}}, fracs(1, 1), one, true},
	} {
		if f, cover, err := Covers(x.g, x.sets, x.w); f != x.sum || cover != x.cover || err != nil {
			t.Error(x, f, cover, err)
		}
	}
}

func TestCoversRefuses(t *testing.T) {
	zero := frac(0, 1)
	refused := func(g Graph, sets [][]int, w []api.Frac, want error) {
		t.Helper()
		if f, cover, err := Covers(g, sets, w); f != (api.Frac{}) || cover || err != want {
			t.Error(g, sets, w, f, cover, err)
		}
	}
	for _, x := range wrongGraphs() {
		for _, w := range [][]api.Frac{nil, {zero}, {frac(2, 2)}, long()} {
			refused(x.g, nil, w, x.err)
			refused(x.g, [][]int{{0}}, w, x.err)
			refused(x.g, make([][]int, 65), w, x.err)
		}
	}
	refused(ring(5), nil, many(1, zero), api.ErrShape)
	refused(ring(5), [][]int{{0}}, nil, api.ErrShape)
	refused(ring(5), [][]int{{0}, {1}}, many(1, zero), api.ErrShape)
	// As many weights as vertices are not wanted here.
	refused(ring(5), [][]int{{0}, {1}}, many(5, zero), api.ErrShape)
	refused(ring(5), make([][]int, 65), many(65, zero), api.ErrShape)
	refused(ring(5), make([][]int, 65), many(64, zero), api.ErrShape)
	refused(ring(5), make([][]int, 100000), many(100000, zero), api.ErrShape)
	for _, v := range []int{-1, 5, 16, 64, math.MaxInt, math.MinInt} {
		refused(ring(5), [][]int{{v}}, many(1, zero), api.ErrShape)
		refused(ring(5), [][]int{{0, 1}, {}, {4, v}}, many(3, frac(1, 1)), api.ErrShape)
		// Shapes come ahead of a sum that is too long, and of what is merely no cover.
		refused(ring(5), append(make([][]int, 6), []int{3, 1, v}), long(), api.ErrShape)
	}
	refused(Graph{}, [][]int{{0}}, many(1, zero), api.ErrShape)
	for _, f := range wrongFractions() {
		refused(ring(5), [][]int{{0}}, []api.Frac{f}, api.ErrShape)
		refused(ring(5), [][]int{{0}, {2}, {1, 0}}, []api.Frac{frac(-1, 2), zero, f}, api.ErrShape)
		refused(Graph{N: 1}, make([][]int, 8), append(slices.Clone(long()), f), api.ErrShape)
	}
	refused(Graph{N: 1}, make([][]int, 7), long(), api.ErrBound)
	// The sum is asked though no set covers, or none is right.
	refused(Graph{N: 2}, many(7, []int{1, 0}), long(), api.ErrBound)
	refused(Graph{}, nil, long(), api.ErrShape)
}

// checkPacks tells whether it packs, and whether it is told.
func checkPacks(t *testing.T, g Graph, w []api.Frac) (pack, told bool) {
	t.Helper()
	f, pack, err := Packs(g, w)
	sum, bad := wantTold(w)
	if want := bad == nil && wantPacks(g, w); f != sum || pack != want || err != bad {
		t.Error(g, w, f, pack, err, sum, want, bad)
	}
	return pack, err == nil
}

// checkCovers tells whether it covers, and whether it is told.
func checkCovers(t *testing.T, g Graph, sets [][]int, w []api.Frac) (cover, told bool) {
	t.Helper()
	f, cover, err := Covers(g, sets, w)
	sum, bad := wantTold(w)
	if want := bad == nil && wantCovers(g, sets, w); f != sum || cover != want || err != bad {
		t.Error(g, sets, w, f, cover, err, sum, want, bad)
	}
	return cover, err == nil
}

// eachWeights goes through all lists of n out of some weights.
func eachWeights(n int, of []api.Frac, visit func(w []api.Frac)) {
	w := make([]api.Frac, n)
	var fill func(at int)
	fill = func(at int) {
		if at == n {
			visit(w)
			return
		}
		for _, f := range of {
			w[at] = f
			fill(at + 1)
		}
	}
	fill(0)
}

func TestSmallPacks(t *testing.T) {
	for n := range 4 {
		eachGraph(n, func(g Graph) {
			eachWeights(n, fracs(-1, 2, 0, 1, 1, 3, 1, 2, 2, 3, 1, 1, 3, 2), func(w []api.Frac) { checkPacks(t, g, w) })
		})
	}
	eachGraph(4, func(g Graph) {
		eachWeights(4, fracs(0, 1, 1, 3, 1, 2, 2, 3), func(w []api.Frac) { checkPacks(t, g, w) })
	})
}

func TestSomePacks(t *testing.T) {
	r := rand.New(rand.NewSource(93))
	packs, fails, long := 0, 0, 0
	for range 6000 {
		n := 1 + r.Intn(10)
		g, num, den := someGraph(r, n, someDensity(r)), 1, 2+r.Intn(2*n)
		switch r.Intn(4) {
		case 0:
			num, den = 1000, 1000
		case 1:
			num, den = 4, 12
		}
		w := make([]api.Frac, n)
		for i := range w {
			w[i] = someWeight(r, num, den)
			if r.Intn(60) == 0 {
				w[i].Num = -w[i].Num
			}
		}
		switch pack, told := checkPacks(t, g, w); {
		case pack:
			packs++
		case told:
			fails++
		default:
			long++
		}
	}
	if packs < 1000 || fails < 1000 || long < 50 {
		t.Error(packs, fails, long)
	}
}

// Near 1: of the greatest sets the weights are just 1 together, and one of them is changed by a little.
func TestPacksNearOne(t *testing.T) {
	r := rand.New(rand.NewSource(931))
	packs, fails := 0, 0
	for range 600 {
		g := someGraph(r, 2+r.Intn(15), 30+r.Intn(60))
		most := 0
		for _, l := range setsJoined(g) {
			most = max(most, len(l))
		}
		w := many(g.N, frac(1, most))
		if pack, _ := checkPacks(t, g, w); !pack {
			t.Error(g, most)
		}
		w[r.Intn(g.N)] = []api.Frac{frac(1, max(1, most-1)), frac(1, most+1), frac(0, 1)}[r.Intn(3)]
		if pack, _ := checkPacks(t, g, w); pack {
			packs++
		} else {
			fails++
		}
	}
	if packs < 100 || fails < 40 {
		t.Error(packs, fails)
	}
}

func TestSmallCovers(t *testing.T) {
	half := fracs(0, 1, 1, 2, 1, 1)
	for n := range 4 {
		eachGraph(n, func(g Graph) {
			joined := setsJoined(g)
			eachWeights(len(joined), half, func(w []api.Frac) { checkCovers(t, g, joined, w) })
		})
	}
	// All pairs of all lists of up to three numbers, right or not.
	lists := [][]int{{}}
	for range 3 {
		for _, l := range slices.Clone(lists) {
			for v := range 3 {
				lists = append(lists, append(slices.Clone(l), v))
			}
		}
	}
	eachGraph(3, func(g Graph) {
		for _, a := range lists {
			for _, b := range [][]int{{}, {0}, {2}, {0, 1}, {1, 2}, {2, 0}} {
				checkCovers(t, g, [][]int{a, b}, fracs(1, 1, 1, 1))
			}
		}
	})
}

// someCover: sets of g with weights that cover.
func someCover(r *rand.Rand, g Graph) ([][]int, []api.Frac) {
	var sets [][]int
	var w []api.Frac
	joined, parts := setsJoined(g), 1+r.Intn(3)
	for v := range g.N {
		var holding [][]int
		for _, l := range joined {
			if slices.Contains(l, v) {
				holding = append(holding, l)
			}
		}
		for part := range parts {
			l, other := holding[r.Intn(len(holding))], holding[r.Intn(len(holding))]
			if len(other) > len(l) {
				l = other
			}
			sets = append(sets, slices.Clone(l))
			w = append(w, frac(1, []int{parts, parts, parts - part}[r.Intn(3)]))
		}
	}
	return sets, w
}

func TestSomeCovers(t *testing.T) {
	r := rand.New(rand.NewSource(932))
	covers, fails, long := 0, 0, 0
	for range 4000 {
		g := someGraph(r, 1+r.Intn(8), someDensity(r))
		sets, w := someCover(r, g)
		switch i := r.Intn(len(sets)); r.Intn(12) {
		case 0:
			w[i] = frac(0, 1)
		case 1:
			w[i].Num = -w[i].Num
		case 2:
			sets[i] = append(sets[i], r.Intn(g.N))
		case 3:
			sets[i] = []int{r.Intn(g.N), r.Intn(g.N)}
		case 4:
			sets, w = slices.Delete(sets, i, i+1), slices.Delete(w, i, i+1)
		case 5:
			slices.Reverse(sets[i])
		case 6:
			for k := range w {
				w[k] = someWeight(r, 1000, 1000)
			}
		case 7:
			w[i] = someWeight(r, 10, 100)
		}
		switch cover, told := checkCovers(t, g, sets, w); {
		case cover:
			covers++
		case told:
			fails++
		default:
			long++
		}
	}
	if covers < 1000 || fails < 500 || long < 50 {
		t.Error(covers, fails, long)
	}
}
