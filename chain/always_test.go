package chain

// P37

import (
	"math"
	"math/big"
	"math/rand"
	"testing"

	"demon/api"
	"demon/dist"
	"demon/logs"
)

func TestStaysStationary(t *testing.T) {
	count := 0
	for _, c := range someChains(371) {
		l, err := Stationary(c)
		if err != nil {
			continue
		}
		p, sum := make([]*big.Rat, len(l)), rat(0, 1)
		for i, f := range l {
			p[i] = ratOf(f)
			sum.Add(sum, p[i])
		}
		if sum.Cmp(rat(1, 1)) != 0 {
			t.Error(c, l)
		}
		for i, x := range oneStep(c, p) {
			if x.Cmp(p[i]) != 0 {
				t.Error(c, l, i)
			}
		}
		w, fits := asWeights(l)
		if !fits {
			continue
		}
		count++
		for _, steps := range []int{1, 2, 7, api.MaxSteps} {
			again, err := After(c, w, steps)
			if err != nil {
				t.Error(c, l, err)
			}
			for i, f := range again {
				if f != l[i] {
					t.Error(c, l, steps, again)
				}
			}
		}
	}
	if count < 100 {
		t.Error(count)
	}
}

// asWeights are weights of these chances, if they are small enough.
func asWeights(l []api.Frac) ([]int, bool) {
	den := 1
	for _, f := range l {
		if den > api.MaxWeight || f.Den > api.MaxWeight {
			return nil, false
		}
		den *= f.Den / gcd(den, f.Den)
	}
	w := make([]int, len(l))
	for i, f := range l {
		w[i] = f.Num * (den / f.Den)
	}
	return w, den <= api.MaxWeight
}

func TestKac(t *testing.T) {
	count := 0
	for _, c := range append(someChains(372), rare(1023, 4092)) {
		l, err := Stationary(c)
		classes, _ := Classes(c)
		if err != nil || sumOf(classes) > 0 {
			continue
		}
		count++
		for i, f := range l {
			if r, err := Return(c, i); err != nil || r != (api.Frac{Num: f.Den, Den: f.Num}) {
				t.Error(c, i, f, r, err)
			}
		}
	}
	if count < 200 {
		t.Error(count)
	}
}

// about is a logarithm's value, nearly.
func about(a api.Log) float64 {
	out := 0.0
	for _, t := range a.L {
		out += float64(t.Coef) / float64(a.Den) * math.Log2(float64(t.Prime))
	}
	return out
}

// above: is a above b? Exactly where the bound of P13 lets it be so, else by floats that are not too near.
func above(t *testing.T, a, b api.Log) bool {
	t.Helper()
	less, err := logs.Scale(b, api.Frac{Num: -1, Den: 1})
	if err != nil {
		t.Fatal(err)
	}
	d, err := logs.Add(a, less)
	if err != nil {
		return about(a) > about(b)+1e-9
	}
	n, err := logs.Sign(d)
	if err != nil {
		return about(d) > 1e-9
	}
	return n > 0
}

// The H-theorem: two distributions come no further apart.
func TestNoFurtherApart(t *testing.T) {
	r := rand.New(rand.NewSource(373))
	count := 0
	for range 4000 {
		n := 1 + r.Intn(5)
		c := someChain(r, n, 40, 1+r.Intn(3))
		p, q := someChain(r, n, 20, 6)[0], someChain(r, n, 20, 6)[0]
		far, err := dist.Divergence(p, q)
		if err != nil {
			continue
		}
		a, errA := After(c, p, 1)
		b, errB := After(c, q, 1)
		if errA != nil || errB != nil {
			t.Error(c, p, q, errA, errB)
			continue
		}
		one, fitsOne := asWeights(a)
		two, fitsTwo := asWeights(b)
		if !fitsOne || !fitsTwo {
			continue
		}
		near, err := dist.Divergence(one, two)
		if err != nil || above(t, near, far) {
			t.Error(c, p, q, one, two, near, far, err)
		}
		count++
	}
	if count < 1000 {
		t.Error(count)
	}
}
