package walks

import (
	"math"
	"math/rand"
	"slices"
	"testing"

	"demon/api"
	"demon/chain"
)

// P160

type netCase struct {
	g   Net
	err error
}

func wrongNets() []netCase {
	most, least := math.MaxInt, math.MinInt
	out := []netCase{
		{Net{}, api.ErrBound},
		{Net{N: -1}, api.ErrBound},
		{Net{N: 9}, api.ErrBound},
		{Net{N: most}, api.ErrBound},
		{Net{N: least}, api.ErrBound},
		{path(many(8, 1)...), api.ErrBound},
		{Net{N: 2, Wires: many(21, Wire{0, 1, 1})}, api.ErrBound},
		{Net{N: 2, Wires: many(100000, Wire{0, 1, 1})}, api.ErrBound},
		{fully(7, even(1)), api.ErrBound},
		// Bounds come ahead of shapes.
		{Net{N: 0, Wires: []Wire{{0, 0, 0}}}, api.ErrBound},
		{Net{N: 9, Wires: []Wire{{-1, 10, 0}}}, api.ErrBound},
		{Net{N: 2, Wires: make([]Wire, 21)}, api.ErrBound},
		{Net{N: 1, Wires: []Wire{{0, 0, 1}}}, api.ErrShape},
		{Net{N: 1, Wires: []Wire{{0, 1, 1}}}, api.ErrShape},
		{Net{N: 2, Wires: make([]Wire, 20)}, api.ErrShape},
		{net(2, 0, 0, 1), api.ErrShape},
		{net(2, 1, 1, 1), api.ErrShape},
		{net(2, 0, 2, 1), api.ErrShape},
		{net(2, 2, 0, 1), api.ErrShape},
		{net(2, 0, -1, 1), api.ErrShape},
		{net(2, -1, 0, 1), api.ErrShape},
		{net(2, least, most, 1), api.ErrShape},
		{net(2, most, least, 1), api.ErrShape},
		{net(2, 0, 1, 0), api.ErrShape},
		{net(2, 0, 1, -1), api.ErrShape},
		{net(2, 0, 1, 1001), api.ErrShape},
		{net(2, 0, 1, most), api.ErrShape},
		{net(2, 0, 1, least), api.ErrShape},
		{net(8, 0, 8, 1), api.ErrShape},
		{net(8, 7, 8, 1), api.ErrShape},
		// Only the last wire is wrong.
		{Net{N: 2, Wires: append(many(19, Wire{0, 1, 1}), Wire{1, 1, 1})}, api.ErrShape},
		{Net{N: 2, Wires: append(many(19, Wire{0, 1, 1000}), Wire{1, 0, 1001})}, api.ErrShape},
		// Shapes come ahead of what is not joined.
		{net(3, 0, 1, 1, 0, 1, 0), api.ErrShape},
		{net(4, 3, 3, 1), api.ErrShape},
		{net(3, 0, 1, 1), api.ErrNone},
		{net(3, 0, 2, 1), api.ErrNone},
		{net(3, 2, 1, 1, 1, 2, 5), api.ErrNone},
		{net(4, 0, 1, 1, 2, 3, 1), api.ErrNone},
		{net(4, 0, 3, 1, 1, 2, 1), api.ErrNone},
		{net(4, 1, 2, 1, 3, 0, 1, 0, 3, 1, 2, 1, 7), api.ErrNone},
		{Net{N: 8, Wires: path(many(6, 1)...).Wires}, api.ErrNone},
		{Net{N: 8, Wires: slices.Concat(fully(4, even(1)).Wires, behind(Net{N: 5}, fully(4, even(1))).Wires)}, api.ErrNone},
		{Net{N: 7, Wires: fully(6, even(1)).Wires}, api.ErrNone},
	}
	for n := 2; n <= 8; n++ {
		out = append(out, netCase{Net{N: n}, api.ErrNone}, netCase{Net{N: n, Wires: []Wire{}}, api.ErrNone})
	}
	return out
}

func rightNets() []Net {
	out := []Net{
		{N: 1},
		{N: 1, Wires: []Wire{}},
		net(2, 0, 1, 1),
		net(2, 1, 0, 1000),
		net(2, 0, 1, 1, 1, 0, 3),
		{N: 2, Wires: many(20, Wire{1, 0, 1000})},
		// Joined by a way round, and in an order in which no wire goes on from the one ahead.
		net(4, 3, 1, 1, 0, 2, 1, 2, 1, 1),
		net(8, 6, 7, 1, 4, 5, 1, 2, 3, 1, 0, 1, 1, 5, 6, 1, 3, 4, 1, 1, 2, 1),
		net(8, 7, 0, 1, 7, 1, 1, 7, 2, 1, 7, 3, 1, 7, 4, 1, 7, 5, 1, 7, 6, 1),
		{N: 8, Wires: slices.Concat(fully(4, even(1)).Wires, behind(Net{N: 5}, fully(4, even(1))).Wires, []Wire{{7, 0, 1}})},
		justTold(),
		justAbove(),
	}
	for n := 2; n <= 8; n++ {
		out = append(out, path(many(n-1, n)...), ring(n, 1000))
	}
	for n := 2; n <= 6; n++ {
		out = append(out, fully(n, even(1)))
	}
	return out
}

func TestValid(t *testing.T) {
	for _, x := range wrongNets() {
		if err := Valid(x.g); err != x.err || wantValid(x.g) != x.err {
			t.Error(x, err)
		}
	}
	for _, g := range rightNets() {
		if err := Valid(g); err != nil || wantValid(g) != nil {
			t.Error(g, err)
		}
	}
}

// All nets of up to two wires out of some numbers, right or not.
func TestSmallValid(t *testing.T) {
	var wires []Wire
	for a := -1; a <= 3; a++ {
		for b := -1; b <= 3; b++ {
			for _, c := range []int{-1, 0, 1, 1000, 1001} {
				wires = append(wires, Wire{a, b, c})
			}
		}
	}
	check := func(g Net) {
		if err := Valid(g); err != wantValid(g) {
			t.Error(g, err)
		}
	}
	for n := -1; n <= 4; n++ {
		check(Net{N: n})
		for _, v := range wires {
			check(Net{n, []Wire{v}})
			for _, w := range wires {
				check(Net{n, []Wire{v, w}})
			}
		}
	}
}

// All nets of up to five vertices in which each two have one wire or none, and drawn ones.
func TestJoined(t *testing.T) {
	seen := map[error]int{}
	check := func(g Net) {
		err := Valid(g)
		if err != wantValid(g) {
			t.Error(g, err)
		}
		seen[err]++
	}
	for n := 1; n <= 5; n++ {
		eachNet(n, 1, check)
	}
	r := rand.New(rand.NewSource(160))
	for range 20000 {
		g := Net{N: 1 + r.Intn(8)}
		for range r.Intn(2 * g.N) {
			if a, b := r.Intn(g.N), r.Intn(g.N); a != b {
				g.Wires = append(g.Wires, Wire{a, b, 1 + r.Intn(1000)})
			}
		}
		check(g)
	}
	if seen[nil] < 3000 || seen[api.ErrNone] < 3000 || len(seen) != 2 {
		t.Error(seen)
	}
}

// P162

func TestChain(t *testing.T) {
	for _, x := range []struct {
		g    Net
		want [][]int
	}{
		{net(2, 0, 1, 1), [][]int{{0, 1}, {1, 0}}},
		{net(2, 1, 0, 7), [][]int{{0, 7}, {7, 0}}},
		{net(2, 0, 1, 1, 1, 0, 3, 0, 1, 5), [][]int{{0, 9}, {9, 0}}},
		{net(3, 0, 1, 1, 1, 2, 2), [][]int{{0, 1, 0}, {1, 0, 2}, {0, 2, 0}}},
		{net(3, 2, 0, 4, 1, 0, 5, 0, 2, 6), [][]int{{0, 5, 10}, {5, 0, 0}, {10, 0, 0}}},
		// A row's sum just at MaxWeight.
		{net(2, 0, 1, 1000, 0, 1, 1000, 1, 0, 1000, 1, 0, 1000, 0, 1, 96), [][]int{{0, 4096}, {4096, 0}}},
		{path(2048, 2048), [][]int{{0, 2048, 0}, {2048, 0, 2048}, {0, 2048, 0}}},
		{path(1, 4095, 1), [][]int{{0, 1, 0, 0}, {1, 0, 4095, 0}, {0, 4095, 0, 1}, {0, 0, 1, 0}}},
	} {
		got, err := Chain(x.g)
		if !slices.EqualFunc(got, x.want, slices.Equal) || err != nil || chain.Valid(got) != nil {
			t.Error(x, got, err)
		}
	}
}

// nobodysChains are Valid networks that are no Valid chain.
func nobodysChains() []Net {
	return []Net{
		net(2, 0, 1, 1000, 0, 1, 1000, 1, 0, 1000, 1, 0, 1000, 0, 1, 97),
		{N: 2, Wires: many(20, Wire{0, 1, 1000})},
		path(2048, 2049),
		path(1, 4095, 2),
		path(1, 1, 1, 1, 1, 1, 4097),
		path(4096, 1, 1),
		net(6, 0, 1, 1000, 0, 2, 1000, 0, 3, 1000, 0, 4, 1000, 0, 5, 97),
		net(6, 1, 5, 1000, 2, 5, 1000, 3, 5, 1000, 4, 5, 1000, 5, 0, 97),
	}
}

func TestChainRefuses(t *testing.T) {
	for _, x := range wrongNets() {
		if c, err := Chain(x.g); len(c) != 0 || err != x.err {
			t.Error(x, c, err)
		}
	}
	for _, g := range nobodysChains() {
		if c, err := Chain(g); len(c) != 0 || err != api.ErrBound {
			t.Error(g, c, err)
		}
	}
	for _, g := range []Net{{N: 1}, {N: 1, Wires: []Wire{}}} {
		if c, err := Chain(g); len(c) != 0 || err != api.ErrNone {
			t.Error(g, c, err)
		}
	}
}

func checkChain(t *testing.T, g Net) bool {
	t.Helper()
	got, err := Chain(g)
	var want [][]int
	most := 0
	for a := range g.N {
		var row []int
		for b := range g.N {
			row = append(row, conductance(g, a, b))
		}
		want = append(want, row)
		most = max(most, around(g, a))
	}
	switch {
	case g.N == 1 && (err != api.ErrNone || len(got) != 0),
		most > api.MaxWeight && (err != api.ErrBound || len(got) != 0),
		g.N > 1 && most <= api.MaxWeight && (err != nil || !slices.EqualFunc(got, want, slices.Equal)):
		t.Error(g, got, err)
	}
	return err == nil
}

func TestSomeChains(t *testing.T) {
	for n := 1; n <= 4; n++ {
		for _, g := range joinedNets(n, 2) {
			checkChain(t, g)
		}
	}
	told, refused := 0, 0
	for _, g := range someNets(162, 60) {
		if checkChain(t, g) {
			told++
		} else if g.N > 1 {
			refused++
		}
	}
	if told < 1000 || refused < 100 {
		t.Error(told, refused)
	}
}
