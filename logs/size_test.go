package logs

import (
	"math/big"
	"math/bits"
	"math/rand"
	"testing"

	"demon/api"
)

// count of the document's bits.
func count(a api.Log) int {
	n := 0
	for _, t := range a.L {
		n += max(t.Coef, -t.Coef) * bits.Len(uint(t.Prime))
	}
	return n
}

func negated(a api.Log) api.Log {
	out := api.Log{Den: a.Den}
	for _, t := range a.L {
		out.L = append(out.L, api.Term{Prime: t.Prime, Coef: -t.Coef})
	}
	return out
}

// P13

func TestSign(t *testing.T) {
	for _, c := range []struct {
		a    api.Log
		want int
	}{
		{log(1), 0},
		{log(1, 2, 1), 1},
		{log(api.MaxDen, 999983, 1), 1},
		{log(1, 2, -3, 3, 2), 1},
		{log(2, 2, 3, 3, -2), -1},
		{log(1, 2, -84, 3, 53), 1},
		{log(1, 2, -1054, 3, 665), 1},
		{log(7, 2, -485, 3, 306), -1},
		{log(1, 2, 1, 499979, 1, 999959, -1), -1}, // 999958 and 999959
		{log(1, 2, 20000), 1},
		{log(1, 2, 19997, 5, 1, 7, 1), 1},
		{log(1, 3, 20000), 1},
		{log(1, 2, 6667, 7, 8888), 1},
		{log(1, 999983, 2000), 1},
		{log(1, 2, 9999, 3, -9999, 7, 1), -1},
		{log(1, 2, -10000, 3, 10000), 1},
	} {
		for range 2 {
			if n, err := Sign(c.a); n != c.want || err != nil {
				t.Error(c, n, err)
			}
			c.a, c.want = negated(c.a), -c.want
		}
	}
}

func TestSignBound(t *testing.T) {
	for _, a := range []api.Log{
		log(1, 2, 20001),
		log(1, 2, 19999, 5, 1),
		log(1, 2, -20001),
		log(3, 3, 20002, 5, 3),
		log(1, 2, 10000, 3, -10001),
		log(1, 5, 13334),
		log(1, 2, 20000, 999983, 1),
		log(1, 999983, 2001),
		log(api.MaxDen, 2, api.MaxCoef, 3, 1),
		log(1, 2, api.MaxCoef),
		log(1, 2, -api.MaxCoef),
	} {
		if n, err := Sign(a); n != 0 || err != api.ErrBound {
			t.Error(a, n, err)
		}
	}
	for _, a := range []api.Log{{}, log(2, 2, 40002), log(1, 4, 1), log(1, 2, api.MaxCoef+1)} {
		if n, err := Sign(a); n != 0 || err != api.ErrShape {
			t.Error(a, n, err)
		}
	}
}

func TestSignIsExact(t *testing.T) {
	r := rand.New(rand.NewSource(21))
	primes := primesUpTo(2000)
	for i := range 600 {
		a := someLog(r, primes, 8, []int{3, 40, 700, 5000}[i%4], 50)
		n, err := Sign(a)
		if count(a) > api.MaxPower {
			if n != 0 || err != api.ErrBound {
				t.Error(a, n, err)
			}
			continue
		}
		above, below := power(a, 1)
		if n != above.Cmp(below) || err != nil {
			t.Error(a, n, err)
		}
	}
}

// P14

func TestGrains(t *testing.T) {
	for _, c := range []struct {
		a    api.Log
		want int
	}{
		{log(1), 0},
		{log(1, 2, 1), 32},
		{log(1, 2, -1), -32},
		{log(1, 3, 1), 50},
		{log(1, 3, -1), -51},
		{log(32, 2, 1), 1},
		{log(32, 2, -1), -1},
		{log(33, 2, 1), 0},
		{log(33, 2, -1), -1},
		{log(31, 2, 1), 1},
		{log(31, 2, -1), -2},
		{log(7, 2, 1), 4},
		{log(api.MaxDen, 2, 1), 0},
		{log(api.MaxDen, 2, -1), -1},
		{log(1, 2, 625), 20000},
		{log(1, 2, -625), -20000},
		{log(1, 2, -84, 3, 53), 0},
		{log(1, 2, 84, 3, -53), -1},
		{log(2, 2, 3, 3, -2), -3},
		{log(1, 2, 1, 499979, 1, 999959, -1), -1},
		{log(1, 2, -1, 499979, -1, 999959, 1), 0},
	} {
		if n, err := Grains(c.a); n != c.want || err != nil {
			t.Error(c, n, err)
		}
	}
}

func TestGrainsBound(t *testing.T) {
	for _, a := range []api.Log{
		log(1, 2, 626),
		log(1, 2, 624, 5, 1),
		log(1, 2, -626),
		log(7, 2, 625, 3, 1),
		log(1, 2, 313, 3, -313),
		log(1, 999983, 63),
		log(1, 2, 1<<38),
		log(1, 2, api.MaxCoef),
		log(1, 2, -api.MaxCoef),
	} {
		if n, err := Grains(a); n != 0 || err != api.ErrBound {
			t.Error(a, n, err)
		}
	}
	for _, a := range []api.Log{{}, log(2, 2, 2000), log(1, 4, 1), log(1, 3, 1, 2, 1)} {
		if n, err := Grains(a); n != 0 || err != api.ErrShape {
			t.Error(a, n, err)
		}
	}
}

func TestGrainsAreExact(t *testing.T) {
	r := rand.New(rand.NewSource(22))
	primes := primesUpTo(200)
	for i := range 600 {
		a := someLog(r, primes, 6, []int{2, 9, 60, 200}[i%4], []int{1, 3, 40}[i%3])
		n, err := Grains(a)
		if 32*count(a) > api.MaxPower {
			if n != 0 || err != api.ErrBound {
				t.Error(a, n, err)
			}
			continue
		}
		if err != nil || !hasGrains(a, n) || hasGrains(a, n+1) {
			t.Error(a, n, err)
		}
	}
}

// hasGrains: is n at most 32 times the value?
func hasGrains(a api.Log, n int) bool {
	above, below := power(a, 32)
	if n < 0 {
		above.Lsh(above, uint(-n*a.Den))
	} else {
		below.Lsh(below, uint(n*a.Den))
	}
	return new(big.Int).Set(below).Cmp(above) <= 0
}
