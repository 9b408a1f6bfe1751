package walks

// P165

import (
	"math/big"
	"math/rand"
	"slices"
	"testing"

	"demon/api"
	"demon/chain"
)

// everyNet that P165 is tried on.
func everyNet(seed int64) []Net {
	out := slices.Concat(someNets(seed, 4), rightNets(), nobodysChains(), heavyNets(seed+1, 10))
	for n, most := range map[int]int{1: 1, 2: 5, 3: 3, 4: 2} {
		out = append(out, joinedNets(n, most)...)
	}
	return append(out, joinedNets(5, 1)...)
}

// resistances between all vertices (0 of one with itself); false: not all could be told.
func resistances(t *testing.T, g Net) ([][]*big.Rat, bool) {
	t.Helper()
	out, ok := make([][]*big.Rat, g.N), true
	for v := range out {
		out[v] = many(g.N, rat(0))
	}
	eachPair(g.N, func(a, b int) {
		f, err := Resistance(g, a, b)
		if err != nil {
			ok = false
			return
		}
		out[a][b] = ratOf(f)
	})
	return out, ok
}

func TestFoster(t *testing.T) {
	tried := 0
	for _, g := range everyNet(1651) {
		r, ok := resistances(t, g)
		if !ok {
			continue
		}
		tried++
		sum := rat(0)
		for _, w := range g.Wires {
			sum = plus(sum, times(rat(w.C), r[w.A][w.B]))
		}
		if sum.Cmp(rat(g.N-1)) != 0 {
			t.Error(g, sum)
		}
	}
	if tried < 1500 {
		t.Error(tried)
	}
}

// The resistance is the same both ways, above 0, and no way round is a shorter one.
func TestDistances(t *testing.T) {
	tried := 0
	for _, g := range everyNet(1653) {
		r, ok := resistances(t, g)
		if !ok {
			continue
		}
		tried++
		eachPair(g.N, func(a, b int) {
			if r[a][b].Sign() <= 0 || r[a][b].Cmp(r[b][a]) != 0 {
				t.Error(g, a, b, r)
			}
			for c := range g.N {
				if r[a][b].Cmp(plus(r[a][c], r[c][b])) > 0 {
					t.Error(g, a, b, c, r)
				}
			}
		})
	}
	if tried < 1500 {
		t.Error(tried)
	}
}

func TestCommuteIs(t *testing.T) {
	tried := 0
	for _, g := range everyNet(1655) {
		sum := 0
		for _, w := range g.Wires {
			sum += w.C
		}
		eachPair(g.N, func(a, b int) {
			f, errF := Commute(g, a, b)
			r, errR := Resistance(g, a, b)
			if errF == nil && errR == nil {
				tried++
				if ratOf(f).Cmp(times(rat(2*sum), ratOf(r))) != 0 {
					t.Error(g, a, b, f, r)
				}
			}
		})
	}
	if tried < 10000 {
		t.Error(tried)
	}
}

func TestRayleigh(t *testing.T) {
	r := rand.New(rand.NewSource(1657))
	less, same := 0, 0
	for _, g := range everyNet(1658) {
		if g.N == 1 || len(g.Wires) == mostWires {
			continue
		}
		before, ok := resistances(t, g)
		a := r.Intn(g.N)
		g.Wires = append(slices.Clone(g.Wires), Wire{a, (a + 1 + r.Intn(g.N-1)) % g.N, 1 + r.Intn(1000)})
		after, okToo := resistances(t, g)
		if !ok || !okToo {
			continue
		}
		eachPair(g.N, func(a, b int) {
			switch after[a][b].Cmp(before[a][b]) {
			case 1:
				t.Error(g, a, b, before, after)
			case 0:
				same++
			default:
				less++
			}
		})
	}
	if less < 3000 || same < 500 {
		t.Error(less, same)
	}
}

func TestKirchhoff(t *testing.T) {
	tried := 0
	for _, g := range everyNet(1659) {
		all, err := Trees(g)
		if err != nil {
			continue
		}
		eachPair(g.N, func(a, b int) {
			s, err := Short(g, a, b)
			if err != nil {
				t.Error(g, a, b, err)
			}
			trees, errS := Trees(s)
			f, errF := Resistance(g, a, b)
			if errS != nil {
				return
			}
			tried++
			// All trees can be told, so the resistance can be, which is in lower terms.
			if errF != nil || ratOf(f).Cmp(big.NewRat(int64(trees), int64(all))) != 0 {
				t.Error(g, a, b, trees, all, f, errF)
			}
		})
	}
	if tried < 10000 {
		t.Error(tried)
	}
}

// A walk that is put back to where it began as soon as it has come to one of both ends comes to each of them as often as its chance says.
func TestFirstToCome(t *testing.T) {
	tried := 0
	for _, g := range everyNet(1660) {
		c, err := Chain(g)
		if err != nil || g.N < 3 {
			continue
		}
		eachPair(g.N, func(from, to int) {
			l, err := Voltages(g, from, to)
			if err != nil {
				return
			}
			v := (from + to) % g.N
			if v == from || v == to {
				return
			}
			back := slices.Clone(c)
			back[from], back[to] = make([]int, g.N), make([]int, g.N)
			back[from][v], back[to][v] = 1, 1
			often, err := chain.Stationary(back)
			if err == api.ErrBound {
				return
			}
			if err != nil {
				t.Fatal(back, err)
			}
			tried++
			chance := new(big.Rat).Quo(ratOf(often[from]), plus(ratOf(often[from]), ratOf(often[to])))
			if chance.Cmp(ratOf(l[v])) != 0 {
				t.Error(g, from, to, v, l, chance)
			}
		})
	}
	if tried < 2500 {
		t.Error(tried)
	}
}
