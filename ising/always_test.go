package ising

// P125

import (
	"math/big"
	"math/bits"
	"math/rand"
	"slices"
	"testing"
)

// checkExpansion of van der Waerden, at more numbers than the powers are high: so it holds at all of them.
func checkExpansion(t *testing.T, s System) {
	t.Helper()
	states, err := States(s)
	if err != nil {
		t.Fatal(s, err)
	}
	even, err := Even(s)
	if err != nil {
		t.Fatal(s, err)
	}
	checkSums(t, s, states, even)
}

func checkSums(t *testing.T, s System, states, even []int) {
	t.Helper()
	bonds := len(s.Bonds)
	one, two := big.NewRat(1, 1), big.NewRat(2, 1)
	for i := range bonds + 3 {
		x := big.NewRat(int64(i-1), 3)
		less, more := new(big.Rat).Sub(one, x), new(big.Rat).Add(one, x)
		left := sumOf(states, func(k int) *big.Rat { return power(x, k) })
		right := sumOf(even, func(k int) *big.Rat { return new(big.Rat).Mul(power(less, k), power(more, bonds-k)) })
		// 2 to the power of the bonds on the one side, of the spins on the other.
		if left.Mul(left, power(two, bonds)).Cmp(right.Mul(right, power(two, s.N))) != 0 {
			t.Error(s, x, states, even)
		}
	}
}

func TestExpansion(t *testing.T) {
	for n := range 4 {
		for bonds := range 4 {
			eachSystem(n, bonds, func(s System) { checkExpansion(t, s) })
		}
	}
	for _, s := range rightSystems() {
		checkExpansion(t, s)
	}
	r := rand.New(rand.NewSource(125))
	for range 60 {
		checkExpansion(t, someSystem(r, r.Intn(15), r.Intn(31)))
	}
}

func TestExpansionOfGrids(t *testing.T) {
	grids, faces := longest()
	for high := 2; high <= 4; high++ {
		for long := 2; long <= faces[high]; long++ {
			f, err := Faces(high, long)
			if err != nil {
				t.Fatal(high, long, err)
			}
			checkExpansion(t, f)
			if long <= grids[high] {
				g, err := Grid(high, long)
				if err != nil {
					t.Fatal(high, long, err)
				}
				checkExpansion(t, g)
			}
			// Of a strip that may be too large for States: what its loops tell.
			states, err := Strip(high, long, false)
			if err != nil {
				t.Fatal(high, long, err)
			}
			s := wantSystem(high, long, false)
			checkSums(t, s, states, wantEvenByLoops(s))
		}
	}
}

// unlikeSets of a system: how many states have just these bonds between unlike spins.
func unlikeSets(s System) map[int]int {
	out := map[int]int{}
	eachState(s.N, func(up []bool) {
		set := 0
		for i, b := range s.Bonds {
			if up[b[0]] != up[b[1]] {
				set |= 1 << i
			}
		}
		out[set]++
	})
	return out
}

// The duality of Kramers and Wannier: set by set, and in numbers.
func TestDuality(t *testing.T) {
	grids, faces := longest()
	for high := 2; high <= 4; high++ {
		for long := 2; long <= faces[high]; long++ {
			f, err := Faces(high, long)
			if err != nil {
				t.Fatal(high, long, err)
			}
			g := wantSystem(high, long, false)
			even := wantEvenByLoops(g)
			if long <= grids[high] {
				if g, err = Grid(high, long); err != nil {
					t.Fatal(high, long, err)
				}
				if even, err = Even(g); err != nil {
					t.Fatal(high, long, err)
				}
			}
			checkDuality(t, g, f, even)
		}
	}
}

func checkDuality(t *testing.T, g, f System, even []int) {
	t.Helper()
	count := make([]int, len(even))
	for set, states := range unlikeSets(f) {
		if states != 2 || !isEven(g, set) {
			t.Error(g, f, set, states)
		}
		count[bits.OnesCount(uint(set))]++
	}
	if !slices.Equal(count, even) {
		t.Error(g, f, count, even)
	}
	states, err := States(f)
	if err != nil || len(states) != len(even) {
		t.Fatal(f, states, err)
	}
	for k, n := range states {
		if n != 2*even[k] {
			t.Error(g, f, states, even)
		}
	}
}

// At 1 all states weigh the same, and each bond is unlike in half of them.
func TestMeanOfStates(t *testing.T) {
	r := rand.New(rand.NewSource(1251))
	for range 200 {
		s := someSystem(r, r.Intn(15), r.Intn(31))
		l, err := States(s)
		if err != nil {
			t.Fatal(s, err)
		}
		f, err := Mean(l, frac(1, 1))
		if want := big.NewRat(int64(len(s.Bonds)), 2); err != nil || want.Cmp(big.NewRat(int64(f.Num), int64(f.Den))) != 0 {
			t.Error(s, f, err)
		}
		checkMean(t, l, frac(1+r.Intn(5), 1+r.Intn(5)))
	}
}
