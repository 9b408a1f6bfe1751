package logs

// What the tests hold the package against: the document's words over math/big.

import (
	"math/big"
	"math/rand"
	"slices"
	"testing"

	"demon/api"
)

func log(den int, l ...int) api.Log {
	a := api.Log{Den: den}
	for i := 0; i < len(l); i += 2 {
		a.L = append(a.L, api.Term{Prime: l[i], Coef: l[i+1]})
	}
	return a
}

func same(a, b api.Log) bool { return a.Den == b.Den && slices.Equal(a.L, b.L) }

func primesUpTo(n int) []int {
	var out []int
	crossed := make([]bool, n+1)
	for p := 2; p <= n; p++ {
		if crossed[p] {
			continue
		}
		out = append(out, p)
		for k := p; k <= n; k += p {
			crossed[k] = true
		}
	}
	return out
}

// value of a logarithm: the exact coefficient of each prime.
func value(a api.Log) map[int]*big.Rat {
	out := map[int]*big.Rat{}
	for _, t := range a.L {
		out[t.Prime] = big.NewRat(int64(t.Coef), int64(a.Den))
	}
	return out
}

// inForm is the logarithm of a value, if it is one in form.
func inForm(v map[int]*big.Rat) (api.Log, bool) {
	den := big.NewInt(1)
	var primes []int
	for p, c := range v {
		if c.Sign() != 0 {
			primes = append(primes, p)
			g := new(big.Int).GCD(nil, nil, den, c.Denom())
			den = new(big.Int).Div(new(big.Int).Mul(den, c.Denom()), g)
		}
	}
	slices.Sort(primes)
	if den.Cmp(big.NewInt(api.MaxDen)) > 0 {
		return api.Log{}, false
	}
	a := api.Log{Den: int(den.Int64())}
	for _, p := range primes {
		c := new(big.Rat).Mul(v[p], new(big.Rat).SetInt(den)).Num()
		if c.CmpAbs(big.NewInt(api.MaxCoef)) > 0 {
			return api.Log{}, false
		}
		a.L = append(a.L, api.Term{Prime: p, Coef: int(c.Int64())})
	}
	return a, true
}

// checkSum holds what a call answered against an exact value.
func checkSum(t *testing.T, what string, got api.Log, err error, v map[int]*big.Rat) {
	t.Helper()
	want, ok := inForm(v)
	if ok && (err != nil || !same(got, want)) {
		t.Errorf("%s: %v, %v, want %v", what, got, err, want)
	}
	if !ok && (err != api.ErrBound || !same(got, api.Log{})) {
		t.Errorf("%s: %v, %v, want ErrBound", what, got, err)
	}
}

// power is the products of primes to the coefficients, each so many times: those above 0, and those below.
func power(a api.Log, times int) (above, below *big.Int) {
	above, below = big.NewInt(1), big.NewInt(1)
	for _, t := range a.L {
		e := big.NewInt(int64(t.Coef) * int64(times))
		f := new(big.Int).Exp(big.NewInt(int64(t.Prime)), new(big.Int).Abs(e), nil)
		if e.Sign() > 0 {
			above.Mul(above, f)
		} else {
			below.Mul(below, f)
		}
	}
	return above, below
}

// someLog is in form: with up to n terms, coefficients up to most, a denominator up to den.
func someLog(r *rand.Rand, primes []int, n, most, den int) api.Log {
	for {
		v := map[int]*big.Rat{}
		d := int64(1 + r.Intn(den))
		for range r.Intn(n + 1) {
			v[primes[r.Intn(len(primes))]] = big.NewRat(int64(r.Intn(2*most+1)-most), d)
		}
		if a, ok := inForm(v); ok {
			return a
		}
	}
}
