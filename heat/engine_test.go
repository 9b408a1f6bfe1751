package heat

import (
	"math"
	"math/big"
	"math/rand"
	"reflect"
	"testing"

	"demon/api"
	"demon/dist"
)

// P134

func leg(heat, at api.Frac) Leg { return Leg{Heat: heat, At: at} }

// atOne are legs with these heats, all at the temperature 1: so work and entropy are the same.
func atOne(heats ...api.Frac) []Leg {
	out := make([]Leg, len(heats))
	for i, f := range heats {
		out[i] = leg(f, frac(1, 1))
	}
	return out
}

func TestRound(t *testing.T) {
	for _, x := range []struct {
		l             []Leg
		work, entropy api.Frac
	}{
		{nil, frac(0, 1), frac(0, 1)},
		{[]Leg{}, frac(0, 1), frac(0, 1)},
		{[]Leg{leg(frac(6, 1), frac(3, 1)), leg(frac(-2, 1), frac(1, 1))}, frac(4, 1), frac(0, 1)},
		{[]Leg{leg(frac(6, 1), frac(3, 1)), leg(frac(-3, 1), frac(1, 1))}, frac(3, 1), frac(-1, 1)},
		{[]Leg{leg(frac(1, 2), frac(3, 4))}, frac(1, 2), frac(2, 3)},
		{[]Leg{leg(frac(-1, 2), frac(3, 4))}, frac(-1, 2), frac(-2, 3)},
		{[]Leg{leg(frac(0, 1), frac(1000, 999))}, frac(0, 1), frac(0, 1)},
		{[]Leg{leg(frac(1000, 1), frac(1, 1000))}, frac(1000, 1), frac(1000000, 1)},
		{[]Leg{leg(frac(-1, 1000), frac(1000, 1))}, frac(-1, 1000), frac(-1, 1000000)},
		{[]Leg{leg(frac(1, 2), frac(1, 1)), leg(frac(1, 3), frac(1, 2)), leg(frac(-5, 6), frac(1, 3))}, frac(0, 1), frac(-4, 3)},
		{many(40, leg(frac(1000, 1), frac(1, 1000))), frac(40000, 1), frac(40000000, 1)},
		{many(40, leg(frac(-1, 1000), frac(7, 10))), frac(-1, 25), frac(-2, 35)},
	} {
		if work, entropy, err := Round(x.l); work != x.work || entropy != x.entropy || err != nil {
			t.Error(x, work, entropy, err)
		}
	}
}

func noHeats() []api.Frac {
	most, least := math.MaxInt, math.MinInt
	return []api.Frac{
		{}, frac(1, 0), frac(1, -1), frac(-1, -1), frac(0, -1), frac(0, 2), frac(0, 1000), frac(2, 2), frac(-2, 2), frac(1000, 1000), frac(6, 4), frac(-6, 4), frac(999, 3),
		frac(1001, 1), frac(-1001, 1), frac(1, 1001), frac(1001, 1000), frac(1000, 1001), frac(2000, 2000),
		frac(most, 1), frac(least, 1), frac(1, most), frac(1, least), frac(most, most), frac(least, least), frac(least, -1), frac(0, least), frac(least, 0),
	}
}

func rightHeats() []api.Frac {
	return []api.Frac{frac(0, 1), frac(1, 1), frac(-1, 1), frac(1000, 1), frac(-1000, 1), frac(1, 1000), frac(-1, 1000), frac(1000, 999), frac(-999, 1000), frac(3, 7)}
}

func checkLegs(t *testing.T, l []Leg, want error) {
	t.Helper()
	work, entropy, err := Round(l)
	if err != want || err != nil && (work != (api.Frac{}) || entropy != (api.Frac{})) {
		t.Error(l, work, entropy, err)
	}
}

func TestRoundRefuses(t *testing.T) {
	one := frac(1, 1)
	for _, heat := range append(noHeats(), rightHeats()...) {
		for _, at := range append(noHeats(), rightHeats()...) {
			want := api.ErrShape
			for _, a := range rightHeats() {
				for _, b := range rightHeats() {
					if a == heat && b == at && b.Num > 0 {
						want = nil
					}
				}
			}
			checkLegs(t, []Leg{leg(heat, at)}, want)
			checkLegs(t, append(many(39, leg(one, one)), leg(heat, at)), want)
			checkLegs(t, []Leg{leg(one, one), leg(heat, at), leg(one, one)}, want)
			// Too many come ahead of a shape.
			checkLegs(t, append(many(40, leg(one, one)), leg(heat, at)), api.ErrBound)
		}
	}
	checkLegs(t, many(40, leg(one, one)), nil)
	checkLegs(t, many(41, leg(one, one)), api.ErrBound)
	checkLegs(t, make([]Leg, 41), api.ErrBound)
	checkLegs(t, make([]Leg, 40), api.ErrShape)
	checkLegs(t, make([]Leg, 100000), api.ErrBound)
	// A shape comes ahead of what is too long to be told.
	checkLegs(t, append(longLegs(), Leg{}), api.ErrShape)
	checkLegs(t, longLegs(), api.ErrBound)
}

// longLegs of which the heat alone is too long to be told.
func longLegs() []Leg {
	return atOne(frac(1, 997), frac(1, 991), frac(1, 983), frac(1, 977), frac(1, 971), frac(1, 967), frac(1, 953))
}

// checkRound tells whether it was told.
func checkRound(t *testing.T, l []Leg) bool {
	t.Helper()
	wantWork, wantEntropy := wantRound(l)
	work, entropy, err := Round(l)
	if !fits(wantWork) || !fits(wantEntropy) {
		if work != (api.Frac{}) || entropy != (api.Frac{}) || err != api.ErrBound {
			t.Error(l, work, entropy, err)
		}
		return false
	}
	if !told(work, wantWork) || !told(entropy, wantEntropy) || err != nil {
		t.Error(l, work, entropy, err)
	}
	return true
}

// someFrac in its lowest terms.
func someFrac(r *rand.Rand, most int) api.Frac {
	f := rat(r.Intn(2*most+1)-most, 1+r.Intn(most))
	return frac(int(f.Num().Int64()), int(f.Denom().Int64()))
}

func someLeg(r *rand.Rand, most int) Leg {
	l := leg(someFrac(r, most), someFrac(r, most))
	if l.At.Num == 0 {
		l.At.Num = 1
	}
	l.At.Num = max(l.At.Num, -l.At.Num)
	return l
}

func TestSomeRounds(t *testing.T) {
	r := rand.New(rand.NewSource(134))
	tellable, long := 0, 0
	for range 20000 {
		l := make([]Leg, r.Intn(41))
		most := []int{2, 4, 30, 1000}[r.Intn(4)]
		for i := range l {
			l[i] = someLeg(r, most)
		}
		if checkRound(t, l) {
			tellable++
		} else {
			long++
		}
	}
	if tellable < 4000 || long < 4000 {
		t.Error(tellable, long)
	}
}

// Long on the way, but not what is told: each heat goes out again, in whatever order.
func TestRoundAndBack(t *testing.T) {
	r := rand.New(rand.NewSource(1341))
	for range 300 {
		var l []Leg
		for range 20 {
			x := someLeg(r, 1000)
			l = append(l, x, leg(frac(-x.Heat.Num, x.Heat.Den), x.At))
		}
		r.Shuffle(len(l), func(i, k int) { l[i], l[k] = l[k], l[i] })
		work, entropy, err := Round(l)
		if work != frac(0, 1) || entropy != frac(0, 1) || err != nil {
			t.Error(l, work, entropy, err)
		}
	}
	// Only one of both is too long.
	back := longLegs()
	for _, x := range longLegs() {
		back = append(back, leg(frac(-x.Heat.Num, x.Heat.Den), frac(2, 1)))
	}
	checkLegs(t, back, api.ErrBound)
	evens := make([]Leg, 0, 7)
	for _, x := range longLegs() {
		evens = append(evens, leg(frac(1, 1), frac(x.Heat.Den, 1)))
	}
	checkLegs(t, evens, api.ErrBound)
	for i := range evens {
		evens[i].Heat = frac(1, evens[i].At.Num)
		evens[i].At = evens[i].Heat
	}
	checkLegs(t, evens, api.ErrBound)
}

// split is num over the product of primes as a sum of fractions of one prime each and of a whole number: so a fraction with great numbers is made of small ones.
func split(num *big.Int, primes []int) []api.Frac {
	all, left := big.NewInt(1), new(big.Int).Set(num)
	for _, p := range primes {
		all.Mul(all, big.NewInt(int64(p)))
	}
	var out []api.Frac
	for _, p := range primes {
		own := big.NewInt(int64(p))
		others := new(big.Int).Quo(all, own)
		part := new(big.Int).ModInverse(others, own)
		part.Mod(part.Mul(part, num), own)
		out = append(out, frac(int(part.Int64()), p))
		left.Sub(left, part.Mul(part, others))
	}
	return append(out, frac(int(left.Quo(left, all).Int64()), 1))
}

// At MaxTold, and next to it, above 0 and below: with an upper number that is just that, and a lower one near to it.
func TestRoundAtBound(t *testing.T) {
	primes := []int{997, 991, 983, 977, 971, 967}
	at := map[int]int{}
	for more := -6; more <= 6; more++ {
		for _, sign := range []int64{1, -1} {
			num := big.NewInt(sign * (api.MaxTold + int64(more)))
			l := atOne(split(num, primes)...)
			work, _ := wantRound(l)
			is := checkRound(t, l)
			// Some of them are not in their lowest terms.
			if work.Num().Cmp(num) == 0 {
				at[more]++
				if is != (more <= 0) {
					t.Error(more, sign, l)
				}
			}
		}
	}
	if at[-1] != 2 || at[0] != 2 || at[1] != 2 {
		t.Error(at)
	}
}

// partsOf a number: the powers of primes that it is made of, if all are at most 1000.
func partsOf(n int) ([]int, bool) {
	var out []int
	for p := 2; p <= 1000; p++ {
		part := 1
		for n%p == 0 {
			n, part = n/p, part*p
		}
		if part > 1000 {
			return nil, false
		}
		if part > 1 {
			out = append(out, part)
		}
	}
	return out, n == 1
}

func TestRoundDenAtBound(t *testing.T) {
	for _, way := range []int{-1, 1} {
		for n := api.MaxTold + way; ; n += way {
			parts, is := partsOf(n)
			if !is {
				continue
			}
			var l []Leg
			for _, p := range parts {
				l = append(l, leg(frac(1, p), frac(1, 1)))
			}
			if work, _ := wantRound(l); work.Denom().Int64() != int64(n) {
				t.Fatal(n, work)
			}
			// The upper number is made small, so that only the lower one may be too great.
			for work, _ := wantRound(l); work.Cmp(rat(1, 1)) >= 0; work, _ = wantRound(l) {
				l = append(l, leg(frac(-1, 1), frac(1, 1)))
			}
			if checkRound(t, l) != (way < 0) {
				t.Error(n, l)
			}
			break
		}
	}
}

func TestErase(t *testing.T) {
	for _, x := range []struct {
		w    []int
		want api.Log
	}{
		{[]int{1}, api.Log{Den: 1}},
		{[]int{0, 4096}, api.Log{Den: 1}},
		{[]int{1, 1}, api.Log{Den: 1, L: []api.Term{{Prime: 2, Coef: 1}}}},
		{[]int{1, 1, 2}, api.Log{Den: 2, L: []api.Term{{Prime: 2, Coef: 3}}}},
		{[]int{3, 1}, api.Log{Den: 4, L: []api.Term{{Prime: 2, Coef: 8}, {Prime: 3, Coef: -3}}}},
		{many(16, 256), api.Log{Den: 1, L: []api.Term{{Prime: 2, Coef: 4}}}},
	} {
		if a, err := Erase(x.w); a.Den != x.want.Den || !reflect.DeepEqual(append([]api.Term{}, a.L...), append([]api.Term{}, x.want.L...)) || err != nil {
			t.Error(x, a, err)
		}
	}
	for _, x := range []struct {
		w   []int
		err error
	}{
		{nil, api.ErrShape}, {[]int{}, api.ErrShape}, {[]int{0}, api.ErrShape}, {[]int{1, -1}, api.ErrShape}, {[]int{math.MinInt, math.MaxInt}, api.ErrShape},
		{many(17, 1), api.ErrBound}, {many(100000, -1), api.ErrBound}, {[]int{4097}, api.ErrBound}, {[]int{4096, 1}, api.ErrBound}, {[]int{math.MaxInt, math.MaxInt}, api.ErrBound},
	} {
		if a, err := Erase(x.w); a.Den != 0 || len(a.L) != 0 || err != x.err {
			t.Error(x, a, err)
		}
	}
}

func TestSomeErased(t *testing.T) {
	r := rand.New(rand.NewSource(1342))
	for range 3000 {
		w := make([]int, r.Intn(18))
		for i := range w {
			w[i] = r.Intn(300) - 3
		}
		want, bad := dist.Entropy(w)
		if a, err := Erase(w); !reflect.DeepEqual(a, want) || err != bad {
			t.Error(w, a, err)
		}
	}
}
