package chain

// P32 to P36

import (
	"fmt"
	"math"
	"math/big"
	"math/rand"
	"slices"
	"testing"

	"demon/api"
	"demon/logs"
)

func checkStationary(t *testing.T, c [][]int) {
	t.Helper()
	l, err := Stationary(c)
	is, bad := Reversible(c)
	if bad != err || err != nil && is {
		t.Error(c, is, bad, err)
	}
	if len(wantClosed(c)) > 1 {
		if len(l) != 0 || err != api.ErrNone {
			t.Error(c, l, err)
		}
		return
	}
	want := wantStationary(t, c)
	checkFracs(t, c, l, err, want)
	if err == nil && is != wantReversible(c, want) {
		t.Error(c, is, want)
	}
}

func wantReversible(c [][]int, chances []*big.Rat) bool {
	for i := range c {
		for k := range c {
			a := new(big.Rat).Mul(chances[i], chance(c, i, k))
			b := new(big.Rat).Mul(chances[k], chance(c, k, i))
			if a.Cmp(b) != 0 {
				return false
			}
		}
	}
	return true
}

func TestStationary(t *testing.T) {
	for n := 1; n <= 3; n++ {
		for _, c := range allChains(n) {
			checkStationary(t, c)
		}
	}
	for _, c := range someChains(32) {
		checkStationary(t, c)
	}
}

// symmetric chains, and ones made of weights of pairs, are reversible, whatever their rows' sums are.
func TestReversible(t *testing.T) {
	r := rand.New(rand.NewSource(33))
	seen := 0
	for range 300 {
		n := 1 + r.Intn(6)
		c := someChain(r, n, 10, 30)
		for i := range n {
			for k := range i {
				c[i][k] = c[k][i]
			}
			c[i][i]++
		}
		checkStationary(t, c)
		if is, err := Reversible(c); err == nil && !is {
			t.Error(c)
		} else if err == nil {
			seen++
		}
		if n < 3 {
			continue
		}
		// more goes round in one sense than in the other
		c[0][1], c[1][2], c[2][0] = c[0][1]+2, c[1][2]+2, c[2][0]+2
		c[1][0], c[2][1], c[0][2] = c[1][0]+1, c[2][1]+1, c[0][2]+1
		checkStationary(t, c)
	}
	if seen < 100 {
		t.Error(seen)
	}
	// states that are left for good have no chance, so their steps do not count
	for _, x := range []struct {
		c    [][]int
		want bool
	}{
		{[][]int{{1, 1}, {0, 1}}, true},
		{[][]int{{0, 1, 0, 1}, {0, 0, 1, 0}, {1, 0, 0, 0}, {0, 0, 0, 1}}, true},
		{[][]int{{0, 1, 0, 0}, {0, 0, 1, 0}, {1, 0, 0, 0}, {1, 1, 1, 1}}, false},
		{[][]int{{1, 1, 1}, {3, 3, 3}, {2, 2, 2}}, true},
		{[][]int{{1, 2, 1}, {1, 1, 2}, {2, 1, 1}}, false},
	} {
		if is, err := Reversible(x.c); err != nil || is != x.want {
			t.Error(x.c, is, err)
		}
	}
}

// rare is a chain in which a state has the chance 1 over MaxTold, of 1023 and 4092: six times in a row the one in 1024 must have come, and then the one in four. Of other weights come other numbers, near to it.
func rare(most, last int) [][]int {
	c := square(8, 0)
	for k := range 5 {
		c[k][0], c[k][k+1] = most, 1
	}
	for k := 5; k < 8; k++ {
		c[k][0], c[k][6], c[k][7] = last, 1, 3
	}
	return c
}

func TestToldAtTheBound(t *testing.T) {
	c := rare(1023, 4092)
	l, err := Stationary(c)
	if err != nil || l[6] != (api.Frac{Num: 1, Den: api.MaxTold}) || l[7] != (api.Frac{Num: 3, Den: api.MaxTold}) {
		t.Error(l, err)
	}
	if f, err := Return(c, 6); err != nil || f != (api.Frac{Num: api.MaxTold, Den: 1}) {
		t.Error(f, err)
	}
	// from the others it takes a little longer
	if l, err := Hitting(c, 6); len(l) != 0 || err != api.ErrBound {
		t.Error(l, err)
	}
	c = rare(1024, 4092)
	if l, err := Stationary(c); len(l) != 0 || err != api.ErrBound {
		t.Error(l, err)
	}
	if is, err := Reversible(c); is || err != api.ErrBound {
		t.Error(is, err)
	}
	if f, err := Return(c, 6); f != (api.Frac{}) || err != api.ErrBound {
		t.Error(f, err)
	}
	for most := 1015; most < 1030; most++ {
		for last := 4085; last <= 4092; last++ {
			checkStationary(t, rare(most, last))
			checkHitting(t, rare(most, last))
		}
	}
}

func checkHitting(t *testing.T, c [][]int) {
	t.Helper()
	all := make([]int, len(c))
	for i := range c {
		all[i] = i
	}
	for to := range c {
		l, err := Hitting(c, to)
		if slices.ContainsFunc(all, func(i int) bool { return !comes(c, i, to) }) {
			if len(l) != 0 || err != api.ErrNone {
				t.Error(c, to, l, err)
			}
		} else {
			checkFracs(t, fmt.Sprint(c, to), l, err, wantHitting(t, c, all, to))
		}
		f, err := Return(c, to)
		if slices.ContainsFunc(all, func(i int) bool { return comes(c, to, i) && !comes(c, i, to) }) {
			if f != (api.Frac{}) || err != api.ErrNone {
				t.Error(c, to, f, err)
			}
			continue
		}
		var one []api.Frac
		if f != (api.Frac{}) {
			one = append(one, f)
		}
		checkFracs(t, fmt.Sprint(c, to), one, err, []*big.Rat{wantReturn(t, c, to)})
	}
}

func TestHitting(t *testing.T) {
	for n := 1; n <= 3; n++ {
		for _, c := range allChains(n) {
			checkHitting(t, c)
		}
	}
	for _, c := range someChains(34) {
		checkHitting(t, c)
	}
}

func TestSomeHitting(t *testing.T) {
	// who loses all or wins: from the middle to the left end only if the right end lets go
	ruin := [][]int{{1, 0, 0}, {1, 0, 1}, {0, 0, 1}}
	if l, err := Hitting(ruin, 0); len(l) != 0 || err != api.ErrNone {
		t.Error(l, err)
	}
	if f, err := Return(ruin, 0); err != nil || f != (api.Frac{Num: 1, Den: 1}) {
		t.Error(f, err)
	}
	if f, err := Return(ruin, 1); f != (api.Frac{}) || err != api.ErrNone {
		t.Error(f, err)
	}
	// what cannot come to the state does not matter for Return, if it is never come to
	aside := [][]int{{0, 1, 0, 0}, {1, 1, 0, 0}, {0, 0, 1, 0}, {1, 0, 1, 0}}
	if f, err := Return(aside, 0); err != nil || f != (api.Frac{Num: 3, Den: 1}) {
		t.Error(f, err)
	}
	if l, err := Hitting(aside, 0); len(l) != 0 || err != api.ErrNone {
		t.Error(l, err)
	}
	// from the state itself one may never come back: Hitting does not ask
	l, err := Hitting([][]int{{0, 1}, {0, 1}}, 1)
	if err != nil || !slices.Equal(l, []api.Frac{{Num: 1, Den: 1}, {Num: 0, Den: 1}}) {
		t.Error(l, err)
	}
}

func TestAfter(t *testing.T) {
	r := rand.New(rand.NewSource(35))
	for _, c := range someChains(35) {
		for _, steps := range []int{0, 1, 2, 3, 5} {
			w := someChain(r, len(c), 30, api.MaxWeight/len(c))[0]
			l, err := After(c, w, steps)
			checkFracs(t, fmt.Sprint(c, w, steps), l, err, wantAfter(c, w, steps))
		}
	}
}

// What is long on the way may be short in the end.
func TestLongAfter(t *testing.T) {
	for steps := range api.MaxSteps + 1 {
		c := [][]int{{1, 1}, {0, 2}}
		l, err := After(c, []int{1, 0}, steps)
		checkFracs(t, steps, l, err, wantAfter(c, []int{1, 0}, steps))
		if (err == nil) != (steps <= 62) {
			t.Error(steps, l, err)
		}
		// all come to one state, by rows of unlike sums
		c = [][]int{{4093, 0, 0}, {1, 0, 0}, {0, 4091, 0}}
		l, err = After(c, []int{1, 2, 4}, steps)
		checkFracs(t, steps, l, err, wantAfter(c, []int{1, 2, 4}, steps))
		if err != nil {
			t.Error(steps, err)
		}
	}
	for _, x := range []struct {
		weights []int
		steps   int
		fits    bool
	}{{[]int{1, 2046}, 51, true}, {[]int{1, 2047}, 51, true}, {[]int{1, 2048}, 51, false}, {[]int{1, 4094}, 50, true}, {[]int{1, 4095}, 50, true}, {[]int{1, 4094}, 51, false}} {
		c := [][]int{{1, 1}, {0, 2}}
		l, err := After(c, x.weights, x.steps)
		checkFracs(t, x, l, err, wantAfter(c, x.weights, x.steps))
		if (err == nil) != x.fits {
			t.Error(x, l, err)
		}
	}
}

func TestWrongAfter(t *testing.T) {
	good := square(2, 1)
	for _, x := range []struct {
		c     [][]int
		w     []int
		steps int
		want  error
	}{
		{good, []int{1, 1}, 0, nil},
		{good, []int{1, 1}, api.MaxSteps, nil},
		{good, []int{1, 1}, -1, api.ErrBound},
		{good, []int{1, 1}, api.MaxSteps + 1, api.ErrBound},
		{good, []int{1, 1}, math.MinInt, api.ErrBound},
		{good, []int{1, 1}, math.MaxInt, api.ErrBound},
		{good, nil, 1, api.ErrShape},
		{good, []int{0, 0}, 1, api.ErrShape},
		{good, []int{1, -1}, 1, api.ErrShape},
		{good, []int{1, api.MaxWeight}, 1, api.ErrBound},
		{good, make([]int, api.MaxSize+1), 1, api.ErrBound},
		{good, []int{1}, 1, api.ErrShape},
		{good, []int{1, 1, 1}, 1, api.ErrShape},
		// in their order
		{square(9, 1), []int{-1}, -1, api.ErrBound},
		{square(2, 0), []int{api.MaxWeight + 1}, -1, api.ErrShape},
		{good, []int{api.MaxWeight + 1}, 1, api.ErrBound},
		{good, []int{1}, -1, api.ErrShape},
		{good, []int{-1}, -1, api.ErrShape},
	} {
		l, err := After(x.c, x.w, x.steps)
		if err != x.want || (len(l) == 0) != (err != nil) {
			t.Error(x, l, err)
		}
	}
}

// coefs are those of a sum of logarithms, by primes.
type coefs map[int]*big.Rat

func (c coefs) put(n int, times *big.Rat) {
	for p := 2; n > 1; p++ {
		for n%p == 0 {
			if c[p] == nil {
				c[p] = rat(0, 1)
			}
			c[p].Add(c[p], times)
			n /= p
		}
	}
}

// told is the sum in form; false: it has none.
func (c coefs) told() (api.Log, bool) {
	den := big.NewInt(1)
	for _, x := range c {
		common := new(big.Int).GCD(nil, nil, den, x.Denom())
		den.Mul(den, new(big.Int).Quo(x.Denom(), common))
	}
	if den.Cmp(big.NewInt(api.MaxDen)) > 0 {
		return api.Log{}, false
	}
	out := api.Log{Den: int(den.Int64())}
	for p := 2; p <= api.MaxWeight; p++ {
		if c[p] == nil || c[p].Sign() == 0 {
			continue
		}
		coef := new(big.Rat).Mul(c[p], new(big.Rat).SetInt(den)).Num()
		if coef.CmpAbs(big.NewInt(api.MaxCoef)) > 0 {
			return api.Log{}, false
		}
		out.L = append(out.L, api.Term{Prime: p, Coef: int(coef.Int64())})
	}
	return out, true
}

func putRow(row []int, times *big.Rat, into ...coefs) {
	all := sumOf(row)
	for _, x := range row {
		if x > 0 {
			for _, c := range into {
				share := new(big.Rat).Mul(times, rat(x, all))
				c.put(all, share)
				c.put(x, share.Neg(share))
			}
		}
	}
}

// wantRate: also whether the sum of all has a form, though a part on the way has none.
func wantRate(c [][]int, chances []*big.Rat) (rate api.Log, fits, inTheEnd bool) {
	sum := coefs{}
	fits = true
	for i, row := range c {
		part := coefs{}
		putRow(row, chances[i], part, sum)
		_, one := part.told()
		_, two := sum.told()
		fits = fits && one && two && chances[i].Num().Int64() <= api.MaxPart && chances[i].Denom().Int64() <= api.MaxPart
	}
	rate, inTheEnd = sum.told()
	return rate, fits, inTheEnd
}

func sameLog(a, b api.Log) bool { return a.Den == b.Den && slices.Equal(a.L, b.L) }

// checkRate tells whether there was a rate, and whether there was none but for the parts on the way.
func checkRate(t *testing.T, c [][]int) (told, onTheWay bool) {
	t.Helper()
	got, err := Rate(c)
	if _, bad := Stationary(c); bad != nil {
		if err != bad || !sameLog(got, api.Log{}) {
			t.Error(c, got, err, bad)
		}
		return false, false
	}
	want, fits, inTheEnd := wantRate(c, wantStationary(t, c))
	if !fits {
		if err != api.ErrBound || !sameLog(got, api.Log{}) {
			t.Error(c, got, err)
		}
		return false, inTheEnd
	}
	if err != nil || !sameLog(got, want) || logs.Valid(got) != nil {
		t.Error(c, got, err, want)
	}
	return true, false
}

func TestRate(t *testing.T) {
	count := 0
	for n := 1; n <= 3; n++ {
		for _, c := range allChains(n) {
			checkRate(t, c)
		}
	}
	for _, c := range someChains(36) {
		if told, _ := checkRate(t, c); told {
			count++
		}
	}
	if count < 200 {
		t.Error(count)
	}
}

// All that is on the way must have a form, also where the sum of all has one.
func TestRateOnTheWay(t *testing.T) {
	r := rand.New(rand.NewSource(37))
	count := 0
	for range 3000 {
		// two states with rows of one entropy, and as likely
		a, b, far := 1+r.Intn(4000), 1+r.Intn(90), 2+r.Intn(700)
		c := [][]int{{far, 1, 1}, {a, 0, b}, {a, b, 0}}
		if _, onTheWay := checkRate(t, c); onTheWay {
			count++
		}
	}
	if count == 0 {
		t.Error("no such chain was tried")
	}
}

// A chance with a number above MaxPart is a bound, not a shape.
func TestRateOfRareStates(t *testing.T) {
	for _, c := range [][][]int{
		rare(1023, 4092),
		{{0, 0, 0, 1}, {1, 4001, 50, 40}, {1, 30, 4003, 20}, {1, 4091, 1, 1}}, // the first row has no entropy, and a long chance
	} {
		l, err := Stationary(c)
		if err != nil || !slices.ContainsFunc(l, func(f api.Frac) bool { return f.Den > api.MaxPart }) {
			t.Error(l, err)
		}
		if a, err := Rate(c); err != api.ErrBound || !sameLog(a, api.Log{}) {
			t.Error(a, err)
		}
	}
}
