package logs

import (
	"math"
	"math/big"
	"math/rand"
	"testing"

	"demon/api"
)

// P10

func TestValidTakesWhatIsInForm(t *testing.T) {
	for _, a := range []api.Log{
		log(1),
		{Den: 1, L: []api.Term{}},
		log(1, 2, 1),
		log(1, 2, -1, 3, 1, 999983, 7),
		log(1, 2, api.MaxCoef),
		log(1, 2, -api.MaxCoef),
		log(api.MaxDen, 2, 1),
		log(api.MaxDen, 2, 2, 3, 5),
		log(6, 2, 4, 3, 9),
		log(6, 5, -1),
	} {
		if err := Valid(a); err != nil {
			t.Error(a, err)
		}
	}
}

func TestValidRefusesWhatIsNot(t *testing.T) {
	for _, a := range []api.Log{
		{},
		log(0), log(-1), log(2), log(math.MinInt), log(math.MaxInt),
		log(0, 2, 1), log(-1, 2, 1), log(api.MaxDen+1, 2, 1),
		log(1, 2, 0), log(1, 2, 1, 3, 0),
		log(1, 2, api.MaxCoef+1), log(1, 2, -api.MaxCoef-1), log(1, 2, math.MinInt), log(1, 2, math.MaxInt),
		log(1, 1, 1), log(1, 0, 1), log(1, -2, 1), log(1, -3, 1), log(1, math.MinInt, 1), log(1, math.MaxInt, 1),
		log(1, 4, 1), log(1, 9, 1), log(1, 997*997, 1), log(1, 999999, 1), log(1, 1000000, 1), log(1, 1000003, 1),
		log(1, 3, 1, 2, 1), log(1, 2, 1, 2, 1), log(1, 2, 1, 5, 1, 3, 1),
		log(2, 2, 2), log(2, 2, -2), log(6, 2, 2, 3, -4), log(6, 2, 3, 3, 9), log(api.MaxDen, 2, api.MaxDen),
	} {
		if err := Valid(a); err != api.ErrShape {
			t.Error(a, err)
		}
	}
}

func TestValidOfAllPrimes(t *testing.T) {
	var a api.Log
	a.Den = 1
	for _, p := range primesUpTo(api.MaxNumber) {
		a.L = append(a.L, api.Term{Prime: p, Coef: -api.MaxCoef})
	}
	if err := Valid(a); err != nil {
		t.Error(err)
	}
	if n, err := Sign(a); n != 0 || err != api.ErrBound {
		t.Error(n, err)
	}
	if n, err := Grains(a); n != 0 || err != api.ErrBound {
		t.Error(n, err)
	}
}

// P11

func TestOf(t *testing.T) {
	for _, c := range []struct {
		f    api.Frac
		want api.Log
	}{
		{api.Frac{Num: 12, Den: 5}, log(1, 2, 2, 3, 1, 5, -1)},
		{api.Frac{Num: 1, Den: 1}, log(1)},
		{api.Frac{Num: 30, Den: 30}, log(1)},
		{api.Frac{Num: 1000000, Den: 1000000}, log(1)},
		{api.Frac{Num: 6, Den: 4}, log(1, 2, -1, 3, 1)},
		{api.Frac{Num: 1, Den: 1000000}, log(1, 2, -6, 5, -6)},
		{api.Frac{Num: 524288, Den: 1}, log(1, 2, 19)},
		{api.Frac{Num: 999983, Den: 997 * 997}, log(1, 997, -2, 999983, 1)},
	} {
		if a, err := Of(c.f); err != nil || !same(a, c.want) {
			t.Error(c, a, err)
		}
	}
}

func TestOfIsTheFraction(t *testing.T) {
	r := rand.New(rand.NewSource(11))
	for range 500 {
		f := api.Frac{Num: 1 + r.Intn(api.MaxNumber), Den: 1 + r.Intn(api.MaxNumber)}
		a, err := Of(f)
		if err != nil || Valid(a) != nil || a.Den != 1 {
			t.Fatal(f, a, err)
		}
		above, below := power(a, 1)
		if new(big.Rat).SetFrac(above, below).Cmp(big.NewRat(int64(f.Num), int64(f.Den))) != 0 {
			t.Error(f, a)
		}
	}
}

func TestOfRefuses(t *testing.T) {
	for _, n := range []int{0, -1, -12, api.MaxNumber + 1, math.MinInt, math.MaxInt} {
		for _, f := range []api.Frac{{Num: n, Den: 1}, {Num: 1, Den: n}, {Num: n, Den: n}} {
			if a, err := Of(f); err != api.ErrShape || !same(a, api.Log{}) {
				t.Error(f, a, err)
			}
		}
	}
}

// P12

func TestAdd(t *testing.T) {
	for _, c := range []struct{ a, b, want api.Log }{
		{log(1), log(1), log(1)},
		{log(1), log(2, 3, 1), log(2, 3, 1)},
		{log(2, 2, 3, 7, 2), log(2, 2, 1, 7, -2), log(1, 2, 2)},
		{log(2, 2, 1), log(2, 2, -1), log(1)},
		{log(2, 2, 1), log(3, 2, 1), log(6, 2, 5)},
		{log(6, 2, 1), log(6, 2, 1), log(3, 2, 1)},
		{log(1, 3, 1), log(1, 2, 1, 5, 1), log(1, 2, 1, 3, 1, 5, 1)},
		{log(1, 2, api.MaxCoef), log(1, 2, -api.MaxCoef), log(1)},
		{log(1, 2, api.MaxCoef-1), log(1, 2, 1), log(1, 2, api.MaxCoef)},
		{log(api.MaxDen, 2, 1), log(api.MaxDen, 2, -3), log(api.MaxDen/2, 2, -1)},
		{log(64, 2, 1), log(15625, 3, 1), log(api.MaxDen, 2, 15625, 3, 64)},
		{log(999983, 2, 1), log(999983, 3, api.MaxCoef), log(999983, 2, 1, 3, api.MaxCoef)},
	} {
		if s, err := Add(c.a, c.b); err != nil || !same(s, c.want) {
			t.Error(c, s, err)
		}
	}
}

func TestAddBounds(t *testing.T) {
	for _, c := range []struct{ a, b api.Log }{
		{log(1, 2, api.MaxCoef), log(1, 2, 1)},
		{log(1, 2, -api.MaxCoef), log(1, 2, -1)},
		{log(999983, 2, 1), log(2, 2, 1)},
		{log(999983, 2, 1), log(2, 3, 1)},
		{log(999983, 2, api.MaxCoef), log(999979, 2, api.MaxCoef)},
		{log(1, 2, api.MaxCoef), log(3, 5, 1)},
	} {
		for range 2 {
			if s, err := Add(c.a, c.b); err != api.ErrBound || !same(s, api.Log{}) {
				t.Error(c, s, err)
			}
			c.a, c.b = c.b, c.a
		}
	}
	wrong := log(2, 2, 2)
	for _, c := range []struct{ a, b api.Log }{{wrong, log(1)}, {log(1), wrong}, {wrong, wrong}, {api.Log{}, log(1)}, {log(1), api.Log{}}} {
		if s, err := Add(c.a, c.b); err != api.ErrShape || !same(s, api.Log{}) {
			t.Error(c, s, err)
		}
	}
}

func TestAddIsExact(t *testing.T) {
	r := rand.New(rand.NewSource(12))
	primes := primesUpTo(30)
	for i := range 3000 {
		most, den := api.MaxCoef, api.MaxDen
		if i%3 > 0 {
			most, den = 12, 30
		}
		a, b := someLog(r, primes, 6, most, den), someLog(r, primes, 6, most, den)
		v := value(a)
		for p, c := range value(b) {
			if v[p] != nil {
				c.Add(c, v[p])
			}
			v[p] = c
		}
		s, err := Add(a, b)
		checkSum(t, "Add", s, err, v)
	}
}

func TestScale(t *testing.T) {
	const part = api.MaxPart
	for _, c := range []struct {
		a    api.Log
		f    api.Frac
		want api.Log
	}{
		{log(2, 2, 3, 7, 2), api.Frac{Num: -2, Den: 6}, log(6, 2, -3, 7, -2)},
		{log(2, 2, 3), api.Frac{Num: 0, Den: 5}, log(1)},
		{log(2, 2, 3), api.Frac{Num: 0, Den: part}, log(1)},
		{log(1), api.Frac{Num: part, Den: part - 1}, log(1)},
		{log(1), api.Frac{Num: 1, Den: part}, log(1)},
		{log(2, 2, 3), api.Frac{Num: 1, Den: 1}, log(2, 2, 3)},
		{log(2, 2, 3), api.Frac{Num: part, Den: part}, log(2, 2, 3)},
		{log(2, 2, 3), api.Frac{Num: -part, Den: part}, log(2, 2, -3)},
		{log(1, 2, 1024), api.Frac{Num: part, Den: 1}, log(1, 2, api.MaxCoef)},
		{log(1, 2, -1024), api.Frac{Num: -part, Den: 1}, log(1, 2, api.MaxCoef)},
		{log(1, 2, api.MaxCoef), api.Frac{Num: 1, Den: part}, log(1, 2, 1024)},
		{log(1, 2, api.MaxCoef, 3, api.MaxCoef/2), api.Frac{Num: 3, Den: part}, log(1, 2, 3072, 3, 1536)},
		{log(1, 2, api.MaxCoef, 3, 3), api.Frac{Num: 3, Den: 9}, log(3, 2, api.MaxCoef, 3, 3)},
		{log(1000, 2, 1), api.Frac{Num: 1, Den: 1000}, log(api.MaxDen, 2, 1)},
		{log(api.MaxDen, 2, 3), api.Frac{Num: api.MaxDen, Den: 3}, log(1, 2, 1)},
	} {
		if s, err := Scale(c.a, c.f); err != nil || !same(s, c.want) {
			t.Error(c, s, err)
		}
	}
}

func TestScaleRefuses(t *testing.T) {
	const part = api.MaxPart
	good, wrong := log(2, 2, 3), log(2, 2, 4)
	for _, c := range []struct {
		a    api.Log
		f    api.Frac
		want error
	}{
		{good, api.Frac{}, api.ErrShape},
		{good, api.Frac{Num: 1, Den: 0}, api.ErrShape},
		{good, api.Frac{Num: 1, Den: -1}, api.ErrShape},
		{good, api.Frac{Num: 1, Den: math.MinInt}, api.ErrShape},
		{good, api.Frac{Num: 1, Den: part + 1}, api.ErrShape},
		{good, api.Frac{Num: part + 1, Den: part + 1}, api.ErrShape},
		{good, api.Frac{Num: part + 1, Den: 1}, api.ErrShape},
		{good, api.Frac{Num: -part - 1, Den: 1}, api.ErrShape},
		{good, api.Frac{Num: math.MinInt, Den: 1}, api.ErrShape},
		{good, api.Frac{Num: math.MaxInt, Den: 1}, api.ErrShape},
		{log(1), api.Frac{Num: 0, Den: 0}, api.ErrShape},
		{wrong, api.Frac{Num: 0, Den: 1}, api.ErrShape},
		{wrong, api.Frac{Num: 1, Den: 1000003}, api.ErrShape},
		{good, api.Frac{Num: 1, Den: 1000003}, api.ErrBound},
		{good, api.Frac{Num: 1, Den: 500003}, api.ErrBound},
		{log(1000, 2, 1), api.Frac{Num: 1, Den: 1001}, api.ErrBound},
		{log(1, 2, 1025), api.Frac{Num: part, Den: 1}, api.ErrBound},
		{log(1, 2, -1025), api.Frac{Num: part, Den: 1}, api.ErrBound},
		{log(1, 2, api.MaxCoef), api.Frac{Num: part, Den: 1}, api.ErrBound},
		{log(1, 2, 1, 3, api.MaxCoef), api.Frac{Num: -2, Den: 1}, api.ErrBound},
		{log(1, 2, api.MaxCoef, 3, 1), api.Frac{Num: 1, Den: part}, api.ErrBound},
	} {
		if s, err := Scale(c.a, c.f); err != c.want || !same(s, api.Log{}) {
			t.Error(c, s, err)
		}
	}
}

func TestScaleIsExact(t *testing.T) {
	r := rand.New(rand.NewSource(13))
	primes := primesUpTo(30)
	for i := range 3000 {
		most, den, part := api.MaxCoef, api.MaxDen, api.MaxPart
		if i%3 > 0 {
			most, den, part = 720, 720, 720
		}
		a := someLog(r, primes, 6, most, den)
		f := api.Frac{Num: r.Intn(2*part+1) - part, Den: 1 + r.Intn(part)}
		v := value(a)
		for _, c := range v {
			c.Mul(c, big.NewRat(int64(f.Num), int64(f.Den)))
		}
		s, err := Scale(a, f)
		checkSum(t, "Scale", s, err, v)
	}
}
