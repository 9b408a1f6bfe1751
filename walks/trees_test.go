package walks

import (
	"math/big"
	"math/rand"
	"slices"
	"testing"

	"demon/api"
)

// P163

func TestTrees(t *testing.T) {
	for _, x := range []struct {
		g    Net
		want int
	}{
		{Net{N: 1}, 1},
		{net(2, 0, 1, 1), 1},
		{net(2, 0, 1, 1000), 1000},
		{net(2, 0, 1, 4, 1, 0, 9), 13},
		{Net{N: 2, Wires: many(20, Wire{0, 1, 1000})}, 20000},
		{net(3, 0, 1, 1, 1, 2, 2), 2},
		{net(3, 0, 1, 2, 1, 2, 3, 2, 0, 5), 31},
		{ring(8, 1), 8},
		{ring(5, 10), 50000},
		{fully(4, even(1)), 16},
		{fully(5, even(1)), 125},
		{fully(6, even(1)), 1296},
		{fully(6, even(1000)), 1296e15},
		{path(1000, 1000, 1000, 1000, 1000, 1000), 1e18},
		// Just at the bound.
		{path(512, 512, 512, 512, 512, 512, 256), api.MaxTold},
		{path(2048, 2048, 2048, 512, 512, 512, 4), api.MaxTold},
		{justTold(), api.MaxTold - 1},
	} {
		if got, err := Trees(x.g); got != x.want || err != nil {
			t.Error(x, got, err)
		}
	}
}

func TestTreesRefuses(t *testing.T) {
	for _, x := range wrongNets() {
		if n, err := Trees(x.g); n != 0 || err != x.err {
			t.Error(x, n, err)
		}
	}
	for _, g := range []Net{
		justAbove(),
		path(512, 512, 512, 512, 512, 512, 257),
		path(1024, 512, 512, 512, 512, 512, 256), // 2 to the power of 63
		path(1024, 1024, 512, 512, 512, 512, 256),
		path(1024, 1024, 1024, 512, 512, 512, 256),
		path(2048, 2048, 2048, 2048, 2048, 2048, 1000),
		path(many(7, 1000)...),
		path(many(7, 2000)...),
		{N: 8, Wires: append(fully(6, even(1000)).Wires, Wire{5, 6, 1000}, Wire{6, 7, 1000})},
	} {
		if n, err := Trees(g); n != 0 || err != api.ErrBound {
			t.Error(g, n, err)
		}
	}
}

func checkTrees(t *testing.T, g Net, want *big.Int) bool {
	t.Helper()
	got, err := Trees(g)
	if want.Cmp(big.NewInt(api.MaxTold)) > 0 {
		if got != 0 || err != api.ErrBound {
			t.Error(g, got, err, want)
		}
		return false
	}
	if want.Cmp(big.NewInt(int64(got))) != 0 || err != nil {
		t.Error(g, got, err, want)
	}
	return true
}

// bySets: are there few enough sets of wires?
func bySets(g Net) bool {
	return new(big.Int).Binomial(int64(len(g.Wires)), int64(g.N-1)).Int64() < 400
}

func TestSomeTrees(t *testing.T) {
	for n, most := range map[int]int{1: 1, 2: 9, 3: 5, 4: 2, 5: 1} {
		for _, g := range joinedNets(n, most) {
			checkTrees(t, g, wantTrees(g))
		}
	}
	sets, told, refused := 0, 0, 0
	for _, g := range slices.Concat(someNets(163, 50), heavyNets(1631, 100)) {
		want := treesBySpace(g)
		if bySets(g) {
			sets++
			if want.Cmp(wantTrees(g)) != 0 {
				t.Error(g, want)
			}
		}
		if checkTrees(t, g, want) {
			told++
		} else {
			refused++
		}
	}
	for _, g := range []Net{justTold(), justAbove(), fully(6, func(a, b int) int { return 100*a + b })} {
		checkTrees(t, g, wantTrees(g))
	}
	if sets < 500 || told < 1000 || refused < 300 {
		t.Error(sets, told, refused)
	}
}

func TestShort(t *testing.T) {
	for _, x := range []struct {
		g    Net
		a, b int
		want Net
	}{
		{net(2, 0, 1, 1), 0, 1, Net{N: 1}},
		{net(2, 0, 1, 1, 1, 0, 2), 1, 0, Net{N: 1}},
		{net(3, 0, 1, 1, 1, 2, 2), 2, 0, net(2, 0, 1, 1, 1, 0, 2)},
		{net(3, 0, 1, 1, 1, 2, 2), 0, 2, net(2, 0, 1, 1, 1, 0, 2)},
		{net(3, 0, 1, 1, 1, 2, 2), 0, 1, net(2, 0, 1, 2)},
		{net(3, 0, 1, 1, 1, 2, 2), 1, 2, net(2, 0, 1, 1)},
		// Wires stay in their order, and go the way they went.
		{net(5, 4, 0, 9, 3, 1, 8, 1, 2, 7, 2, 3, 6, 4, 3, 5, 3, 4, 4), 1, 3, net(4, 3, 0, 9, 1, 2, 7, 2, 1, 6, 3, 1, 5, 1, 3, 4)},
		{net(5, 4, 0, 9, 3, 1, 8, 1, 2, 7, 2, 3, 6, 4, 3, 5, 3, 4, 4), 4, 0, net(4, 3, 1, 8, 1, 2, 7, 2, 3, 6, 0, 3, 5, 3, 0, 4)},
		{net(5, 4, 0, 9, 3, 1, 8, 1, 2, 7, 2, 3, 6, 4, 3, 5, 3, 4, 4), 4, 3, net(4, 3, 0, 9, 3, 1, 8, 1, 2, 7, 2, 3, 6)},
		{path(1, 2, 3, 4, 5, 6, 7), 0, 7, net(7, 0, 1, 1, 1, 2, 2, 2, 3, 3, 3, 4, 4, 4, 5, 5, 5, 6, 6, 6, 0, 7)},
		{Net{N: 2, Wires: many(20, Wire{1, 0, 5})}, 1, 0, Net{N: 1}},
	} {
		if got, err := Short(x.g, x.a, x.b); !sameNet(got, x.want) || err != nil {
			t.Error(x, got, err)
		}
	}
}

func checkShort(t *testing.T, g Net, a, b int) {
	t.Helper()
	if got, err := Short(g, a, b); !sameNet(got, wantShort(g, a, b)) || err != nil || Valid(got) != nil {
		t.Error(g, a, b, got, err)
	}
}

func TestSomeShort(t *testing.T) {
	for n, most := range map[int]int{2: 5, 3: 2, 4: 2, 5: 1} {
		for _, g := range joinedNets(n, most) {
			eachPair(n, func(a, b int) { checkShort(t, g, a, b) })
		}
	}
	for _, g := range someNets(1632, 20) {
		eachPair(g.N, func(a, b int) { checkShort(t, g, a, b) })
	}
}

// Until one vertex is left.
func TestShortAgain(t *testing.T) {
	r := rand.New(rand.NewSource(1633))
	for _, g := range someNets(1634, 20) {
		for g.N > 1 {
			n, a := g.N, r.Intn(g.N)
			var err error
			if g, err = Short(g, a, (a+1+r.Intn(n-1))%n); err != nil || g.N != n-1 {
				t.Fatal(g, err)
			}
		}
		if !sameNet(g, Net{N: 1}) {
			t.Error(g)
		}
	}
}
