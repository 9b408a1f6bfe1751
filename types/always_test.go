package types

// P74

import (
	"math/big"
	"math/rand"
	"testing"

	"demon/api"
	"demon/dist"
)

// All sizes together are k to the power of n.
func TestTogether(t *testing.T) {
	for n := range api.MaxTypes + 1 {
		for k := 1; k <= 6; k++ {
			sum := new(big.Int)
			eachType(n, k, func(p []int) {
				size, err := Size(p)
				if err != nil {
					t.Error(p, err)
				}
				sum.Add(sum, big.NewInt(int64(size)))
			})
			if sum.Cmp(power(k, n)) != 0 {
				t.Error(n, k, sum)
			}
		}
	}
}

// entropyRaised is 2 to the power of n times the type's entropy; of no symbols that is 1.
func entropyRaised(t *testing.T, p []int, n int) *big.Rat {
	t.Helper()
	if n == 0 {
		return rat(1, 1)
	}
	h, err := dist.Entropy(p)
	if err != nil {
		t.Fatal(p, err)
	}
	return raised(t, h, n)
}

// A size is at most 2 to the power of n times the entropy, and at least that over (n + 1) to the power of k.
func TestSizeByEntropy(t *testing.T) {
	for n := range api.MaxTypes + 1 {
		for k := 1; k <= 6; k++ {
			over := new(big.Rat).SetInt(power(n+1, k))
			eachType(n, k, func(p []int) {
				size, err := Size(p)
				most := entropyRaised(t, p, n)
				if s := rat(size, 1); err != nil || s.Cmp(most) > 0 || s.Mul(s, over).Cmp(most) < 0 {
					t.Error(p, size, err)
				}
			})
		}
	}
}

// The chances of all types together are 1.
func TestChancesTogether(t *testing.T) {
	for _, q := range [][]int{{1}, {1, 1}, {2, 3}, {0, 1}, {1, 2, 5}, {3, 0, 4}, {1, 1, 1, 1, 1, 2}} {
		for n := range 9 {
			sum := new(big.Rat)
			eachType(n, len(q), func(p []int) {
				f, err := Chance(p, q)
				if err != nil {
					t.Error(p, q, err)
					return
				}
				sum.Add(sum, ratOf(f))
			})
			if sum.Cmp(rat(1, 1)) != 0 {
				t.Error(n, q, sum)
			}
		}
	}
}

// chanceOfSet: of types none of which is there twice.
func chanceOfSet(t *testing.T, set [][]int, q []int) *big.Rat {
	t.Helper()
	sum := new(big.Rat)
	for _, p := range set {
		if f, err := Chance(p, q); err == nil {
			sum.Add(sum, ratOf(f))
		} else if want := wantChance(p, q); len(q) > 6 || tooGreat(want) {
			sum.Add(sum, want)
		} else {
			t.Error(p, q, err)
		}
	}
	return sum
}

// checkSanov: the chance of a set is at most (n + 1) to the power of k times 2 to the power of minus n times the divergence of its Nearest; of a set that has none it is 0.
func checkSanov(t *testing.T, n int, q []int, set [][]int) {
	t.Helper()
	at, err := Nearest(n, q, set)
	if err != nil {
		t.Fatal(n, q, set, err)
	}
	chance := chanceOfSet(t, set, q)
	if at < 0 {
		if chance.Sign() != 0 {
			t.Error(n, q, set, chance)
		}
		return
	}
	d, err := dist.Divergence(set[at], q)
	if err != nil {
		t.Fatal(set[at], q, err)
	}
	most := new(big.Rat).SetInt(power(n+1, len(q)))
	if most.Quo(most, raised(t, d, n)); chance.Cmp(most) > 0 {
		t.Error(n, q, set, at, chance, most)
	}
}

func TestSanov(t *testing.T) {
	r := rand.New(rand.NewSource(77))
	for range 1500 {
		k := 1 + r.Intn(6)
		if r.Intn(4) == 0 {
			k = 1 + r.Intn(api.MaxSize)
		}
		n, q := 1+r.Intn(api.MaxTypes), someWeights(r, k, []int{1, 3, 30, 4096 / k}[r.Intn(4)])
		checkSanov(t, n, q, someSet(r, n, k, 20))
	}
}

// Of sets of one the bound is the sharpest: no other type is nearer.
func TestSanovOfOne(t *testing.T) {
	for _, q := range [][]int{{1}, {1, 1}, {1, 9}, {0, 3}, {1, 2, 3}, {1, 1, 1, 1}} {
		for n := 1; n <= 12; n++ {
			eachType(n, len(q), func(p []int) { checkSanov(t, n, q, [][]int{p}) })
		}
	}
}
