package walks

import (
	"math/rand"
	"slices"
	"testing"

	"demon/api"
	"demon/chain"
)

// P161

func TestVoltages(t *testing.T) {
	for _, x := range []struct {
		g        Net
		from, to int
		want     []api.Frac
	}{
		{net(2, 0, 1, 1), 0, 1, fracs(1, 1, 0, 1)},
		{net(2, 0, 1, 1000), 1, 0, fracs(0, 1, 1, 1)},
		{net(3, 0, 1, 1, 1, 2, 2), 0, 2, fracs(1, 1, 1, 3, 0, 1)},
		{net(3, 0, 1, 1, 1, 2, 2), 2, 0, fracs(0, 1, 2, 3, 1, 1)},
		// What lies behind either end has its voltage.
		{net(3, 0, 1, 1, 1, 2, 2), 0, 1, fracs(1, 1, 0, 1, 0, 1)},
		{net(3, 0, 1, 1, 1, 2, 2), 1, 0, fracs(0, 1, 1, 1, 1, 1)},
		// What hangs at one vertex has its voltage.
		{net(5, 0, 1, 1, 1, 2, 1, 1, 3, 9, 3, 4, 5), 0, 2, fracs(1, 1, 1, 2, 0, 1, 1, 2, 1, 2)},
		// Two wires count twice.
		{net(3, 0, 1, 1, 1, 0, 1, 2, 1, 1), 0, 2, fracs(1, 1, 2, 3, 0, 1)},
		{net(4, 0, 1, 1, 0, 2, 2, 1, 2, 5, 1, 3, 2, 2, 3, 1), 0, 3, fracs(1, 1, 6, 13, 7, 13, 0, 1)},
		{path(1, 1, 1, 1, 1, 1, 1), 0, 7, fracs(1, 1, 6, 7, 5, 7, 4, 7, 3, 7, 2, 7, 1, 7, 0, 1)},
		{path(1, 1, 1, 1, 1, 1, 1), 5, 2, fracs(0, 1, 0, 1, 0, 1, 1, 3, 2, 3, 1, 1, 1, 1, 1, 1)},
		{fully(6, even(17)), 4, 1, fracs(1, 2, 0, 1, 1, 2, 1, 2, 1, 1, 1, 2)},
	} {
		if got, err := Voltages(x.g, x.from, x.to); !slices.Equal(got, x.want) || err != nil {
			t.Error(x, got, err)
		}
	}
}

func TestResistance(t *testing.T) {
	for _, x := range []struct {
		g        Net
		from, to int
		want     api.Frac
	}{
		{net(2, 0, 1, 1), 0, 1, frac(1, 1)},
		{net(2, 0, 1, 1000), 0, 1, frac(1, 1000)},
		{net(2, 0, 1, 1, 1, 0, 3), 1, 0, frac(1, 4)},
		{Net{N: 2, Wires: many(20, Wire{1, 0, 1000})}, 0, 1, frac(1, 20000)},
		{net(3, 0, 1, 1, 1, 2, 2), 0, 2, frac(3, 2)},
		{net(3, 0, 1, 1, 1, 2, 2), 2, 0, frac(3, 2)},
		{net(3, 0, 1, 1, 1, 2, 2), 1, 2, frac(1, 2)},
		{net(4, 0, 1, 1, 0, 2, 2, 1, 2, 5, 1, 3, 2, 2, 3, 1), 0, 3, frac(13, 19)},
		{path(1, 1, 1, 1, 1, 1, 1), 0, 7, frac(7, 1)},
		{ring(8, 2), 0, 4, frac(1, 1)},
		{ring(8, 1), 1, 7, frac(3, 2)},
		{fully(6, even(1)), 0, 5, frac(1, 3)},
		{justTold(), 0, 1, frac(1, 3)},
		{justAbove(), 1, 0, frac(1, 5581)},
	} {
		if got, err := Resistance(x.g, x.from, x.to); got != x.want || err != nil {
			t.Error(x, got, err)
		}
	}
}

// Just at the bound, and just above it.
func TestBounds(t *testing.T) {
	g := justTold()
	f, err := Resistance(g, 0, 7)
	if f.Den != api.MaxTold-1 || err != nil || !checkFrac(t, g, f, err, wantResistance(g, 0, 7)) {
		t.Error(f, err)
	}
	g = justAbove()
	want := wantResistance(g, 0, 7)
	if want.Denom().Uint64() != api.MaxTold+1 || want.Num().Cmp(want.Denom()) > 0 {
		t.Error(want)
	}
	f, err = Resistance(g, 7, 0)
	if checkFrac(t, g, f, err, want) {
		t.Error(f)
	}
}

type twoVertices struct{ a, b int }

// wrongPairs of vertices of a network with n of them.
func wrongPairs(n int) []twoVertices {
	var out []twoVertices
	for v := range n {
		out = append(out, twoVertices{v, v})
	}
	for _, a := range wildNumbers() {
		for _, b := range wildNumbers() {
			if a < 0 || a >= n || b < 0 || b >= n {
				out = append(out, twoVertices{a, b})
			}
		}
	}
	return out
}

// checkRefused: by all calls that take two vertices.
func checkRefused(t *testing.T, g Net, a, b int, want error) {
	t.Helper()
	if l, err := Voltages(g, a, b); len(l) != 0 || err != want {
		t.Error(g, a, b, l, err)
	}
	if f, err := Resistance(g, a, b); f != (api.Frac{}) || err != want {
		t.Error(g, a, b, f, err)
	}
	if f, err := Commute(g, a, b); f != (api.Frac{}) || err != want {
		t.Error(g, a, b, f, err)
	}
	if s, err := Short(g, a, b); !sameNet(s, Net{}) || err != want {
		t.Error(g, a, b, s, err)
	}
}

func TestPairsRefused(t *testing.T) {
	for _, x := range wrongNets() {
		for _, p := range []twoVertices{{0, 1}, {1, 0}, {0, 0}, {-1, 9}, {0, 7}} {
			checkRefused(t, x.g, p.a, p.b, x.err)
		}
	}
	for _, g := range slices.Concat(rightNets(), nobodysChains()) {
		for _, p := range wrongPairs(g.N) {
			checkRefused(t, g, p.a, p.b, api.ErrShape)
		}
	}
}

// checkCurrents of two vertices; it answers of how many calls the answer could be told.
func checkCurrents(t *testing.T, g Net, a, b int) (volts, resistance, commute bool) {
	t.Helper()
	l, err := Voltages(g, a, b)
	volts = checkFracs(t, g, l, err, wantVoltages(g, a, b))
	want := wantResistance(g, a, b)
	f, err := Resistance(g, a, b)
	resistance = checkFrac(t, g, f, err, want)
	f, err = Commute(g, a, b)
	for v := range g.N {
		if around(g, v) > api.MaxWeight {
			if err != api.ErrBound || f != (api.Frac{}) {
				t.Error(g, a, b, f, err)
			}
			return volts, resistance, false
		}
	}
	return volts, resistance, checkFrac(t, g, f, err, wantCommute(g, a, b))
}

func TestAllCurrents(t *testing.T) {
	for n, most := range map[int]int{2: 5, 3: 4, 4: 2} {
		for _, g := range joinedNets(n, most) {
			eachPair(n, func(a, b int) { checkCurrents(t, g, a, b) })
		}
	}
	for k, g := range joinedNets(5, 1) {
		eachPair(5, func(a, b int) {
			if (a+b+k)%3 == 0 {
				checkCurrents(t, g, a, b)
			}
		})
	}
	for _, g := range slices.Concat(rightNets(), nobodysChains()) {
		eachPair(g.N, func(a, b int) { checkCurrents(t, g, a, b) })
	}
}

// heavyNets: of some of their answers a number is too great; of the resistance from the first vertex of the last kind only the upper one.
func heavyNets(seed int64, each int) []Net {
	r := rand.New(rand.NewSource(seed))
	var out []Net
	for range each {
		dense := fully(6, func(a, b int) int { return 950 + r.Intn(51) })
		for v := range 3 {
			dense.Wires = append(dense.Wires, Wire{v, v + 1 + r.Intn(3), 950 + r.Intn(51)})
		}
		out = append(out, someNet(r, 8, 20, 1000), someNet(r, 7, 20, 1000), someNet(r, 8, 9, 1000), behind(path(1, 1), dense))
	}
	return out
}

func TestSomeCurrents(t *testing.T) {
	r := rand.New(rand.NewSource(161))
	var volts, resistances, commutes, all, apart, upper int
	for _, g := range slices.Concat(someNets(1611, 16), heavyNets(1612, 60)) {
		if g.N == 1 {
			continue
		}
		for range 3 {
			a := r.Intn(g.N)
			b := (a + 1 + r.Intn(g.N-1)) % g.N
			v, f, c := checkCurrents(t, g, a, b)
			all++
			for i, told := range []bool{v, f, c} {
				if told {
					*[]*int{&volts, &resistances, &commutes}[i]++
				}
			}
			if v != f {
				apart++
			}
			if w := wantResistance(g, a, b); w.Denom().IsUint64() && w.Denom().Uint64() <= api.MaxTold && !f {
				upper++
			}
		}
	}
	if volts < 1000 || resistances < 1000 || commutes < 1000 || all-volts < 50 || all-resistances < 200 || apart < 50 || upper < 8 {
		t.Error(volts, resistances, commutes, all, apart, upper)
	}
}

// P164

func TestCommute(t *testing.T) {
	for _, x := range []struct {
		g    Net
		a, b int
		want api.Frac
	}{
		{net(2, 0, 1, 1), 0, 1, frac(2, 1)},
		{net(2, 0, 1, 4, 1, 0, 9), 1, 0, frac(2, 1)},
		{net(3, 0, 1, 1, 1, 2, 2), 0, 2, frac(9, 1)},
		{net(3, 0, 1, 1, 1, 2, 2), 1, 0, frac(6, 1)},
		{path(1, 1, 1, 1, 1, 1, 1), 0, 7, frac(98, 1)},
		{ring(3, 5), 0, 1, frac(4, 1)},
		{net(4, 0, 1, 1, 0, 2, 2, 1, 2, 5, 1, 3, 2, 2, 3, 1), 0, 3, frac(286, 19)},
		{path(2048, 2048), 0, 2, frac(8, 1)},
		{path(1, 4095, 1), 0, 3, frac(8194*8191, 4095)},
	} {
		got, err := Commute(x.g, x.a, x.b)
		if got != x.want || err != nil {
			t.Error(x, got, err)
		}
	}
}

func TestCommuteRefuses(t *testing.T) {
	for _, g := range nobodysChains() {
		eachPair(g.N, func(a, b int) {
			if f, err := Commute(g, a, b); f != (api.Frac{}) || err != api.ErrBound {
				t.Error(g, a, b, f, err)
			}
			// The others do not ask for a chain.
			if _, err := Resistance(g, a, b); err != nil {
				t.Error(g, a, b, err)
			}
		})
	}
}

// There by the chain's Hitting, and back.
func TestCommuteByChain(t *testing.T) {
	told := 0
	for _, g := range someNets(164, 5) {
		c, err := Chain(g)
		if err != nil {
			continue
		}
		eachPair(g.N, func(a, b int) {
			there, errA := chain.Hitting(c, b)
			back, errB := chain.Hitting(c, a)
			if errA != nil || errB != nil {
				return
			}
			told++
			f, err := Commute(g, a, b)
			checkFrac(t, g, f, err, plus(ratOf(there[a]), ratOf(back[b])))
		})
	}
	if told < 2000 {
		t.Error(told)
	}
}
