package bayes

// P183

import (
	"math"
	"math/big"
	"math/rand"
	"slices"
	"testing"

	"demon/api"
	"demon/dist"
	"demon/logs"
)

// counted: how many were held against each other exactly, and how many only nearly.
type counted struct{ exactly, nearly int }

// checkNotBelow: what logarithms times fractions are together is not below 0: by the exact sign where it is told, else by floats.
func (c *counted) checkNotBelow(t *testing.T, what any, parts []part) {
	t.Helper()
	sum, nearly, err := api.Log{Den: 1}, 0.0, error(nil)
	for _, x := range parts {
		nearly += x.nearly
		if err == nil && x.err == nil {
			sum, err = addScaled(sum, x)
		} else {
			err = api.ErrBound
		}
	}
	if err == nil {
		if sign, err := logs.Sign(sum); err == nil {
			c.exactly++
			if sign < 0 {
				t.Error(what, "is below 0:", sum)
			}
			return
		}
	}
	c.nearly++
	if nearly < -1e-9 {
		t.Error(what, "is below 0, nearly:", nearly)
	}
}

// part of a sum: a logarithm times a fraction, and nearly what that is; an error, if there is no such logarithm.
type part struct {
	log    api.Log
	by     *big.Rat
	nearly float64
	err    error
}

func addScaled(sum api.Log, x part) (api.Log, error) {
	if isLong(x.by) {
		return api.Log{}, api.ErrBound
	}
	a, err := logs.Scale(x.log, frac(int(x.by.Num().Int64()), int(x.by.Denom().Int64())))
	if err != nil {
		return api.Log{}, err
	}
	return logs.Add(sum, a)
}

// entropyPart: so many times the entropy of chances.
func entropyPart(chances []*big.Rat, by *big.Rat) part {
	out := part{by: by}
	for _, r := range chances {
		if x, _ := r.Float64(); x > 0 {
			out.nearly -= x * math.Log2(x)
		}
	}
	times, _ := by.Float64()
	out.nearly *= times
	w, fits := weightsOf(chances)
	if !fits {
		out.err = api.ErrBound
		return out
	}
	out.log, out.err = dist.Entropy(w)
	return out
}

// weightsOf chances: the least whole numbers; false: they are more than MaxWeight together.
func weightsOf(chances []*big.Rat) ([]int, bool) {
	all := big.NewInt(1)
	for _, r := range chances {
		common := new(big.Int).GCD(nil, nil, all, r.Denom())
		all.Mul(all, new(big.Int).Quo(r.Denom(), common))
	}
	if all.Cmp(big.NewInt(api.MaxWeight)) > 0 {
		return nil, false
	}
	var out []int
	for _, r := range chances {
		out = append(out, int(times(r, new(big.Rat).SetInt(all)).Num().Int64()))
	}
	return out, true
}

func ratsOf(l []api.Frac) []*big.Rat {
	var out []*big.Rat
	for _, f := range l {
		out = append(out, ratOf(f))
	}
	return out
}

func sameRats(a, b []*big.Rat) bool {
	return slices.EqualFunc(a, b, func(x, y *big.Rat) bool { return x.Cmp(y) == 0 })
}

type answered struct {
	chance       api.Frac
	chances      []api.Frac
	choice       int
	one, two, on error
}

func answersOf(w []int, c [][]int, data []int) answered {
	var out answered
	out.chance, out.one = Chance(w, c, data)
	out.chances, out.two = Posterior(w, c, data)
	out.choice, out.on = Choice(w, c, data)
	return out
}

func sameAnswers(a, b answered) bool {
	return a.chance == b.chance && slices.Equal(a.chances, b.chances) && a.choice == b.choice && a.one == b.one && a.two == b.two && a.on == b.on
}

func TestOrderOfData(t *testing.T) {
	r := rand.New(rand.NewSource(1830))
	seen := 0
	for range 1500 {
		w, c := someHypotheses(r, []int{4, 16}[r.Intn(2)])
		data := someData(r, w, c, r.Intn(41))
		want := answersOf(w, c, data)
		if want.two == nil && len(data) > 3 {
			seen++
		}
		orders := [][]int{slices.Sorted(slices.Values(data)), slices.Clone(data)}
		slices.Reverse(orders[1])
		for range 3 {
			shuffled := slices.Clone(data)
			r.Shuffle(len(data), func(i, k int) { shuffled[i], shuffled[k] = shuffled[k], shuffled[i] })
			orders = append(orders, shuffled)
		}
		for _, order := range orders {
			if got := answersOf(w, c, order); !sameAnswers(got, want) {
				t.Error(w, c, data, order, got, want)
			}
		}
	}
	if seen < 500 {
		t.Error(seen)
	}
}

// checkParts: what comes of data in two parts is what comes of both. Whether there was something to hold against it.
func checkParts(t *testing.T, w []int, c [][]int, first, second []int) bool {
	t.Helper()
	both := slices.Concat(first, second)
	behind, err := Posterior(w, c, first)
	if err == api.ErrNone {
		if _, err := Posterior(w, c, both); err != api.ErrNone {
			t.Error(w, c, first, second, err)
		}
		return false
	}
	if err != nil {
		return false
	}
	again, fits := weightsOf(ratsOf(behind))
	if !fits {
		return false
	}
	got, want := answersOf(again, c, second), answersOf(w, c, both)
	if !slices.Equal(got.chances, want.chances) || got.choice != want.choice || got.two != want.two || got.on != want.on {
		t.Error(w, c, first, second, got, want)
	}
	ahead, err := Chance(w, c, first)
	if err != nil || got.one != nil {
		return false
	}
	if all := times(ratOf(ahead), ratOf(got.chance)); !isTold(want.chance, want.one, all) {
		t.Error(w, c, first, second, ahead, got, want)
	}
	return true
}

func TestTwoParts(t *testing.T) {
	seen := 0
	eachSmall(3, func(w []int, c [][]int, data []int) {
		for cut := range len(data) + 1 {
			if checkParts(t, w, c, data[:cut], data[cut:]) {
				seen++
			}
		}
	})
	if seen < 20000 {
		t.Error(seen)
	}
	r := rand.New(rand.NewSource(1831))
	seen = 0
	for range 4000 {
		w, c := someHypotheses(r, 6)
		data := someData(r, w, c, r.Intn(15))
		cut := r.Intn(len(data) + 1)
		if checkParts(t, w, c, data[:cut], data[cut:]) && cut > 0 && cut < len(data) {
			seen++
		}
	}
	if seen < 300 {
		t.Error(seen)
	}
}

// checkMeans behind data: over all next outcomes, chances are what they were, and entropies are at most that. Whether all of it was told.
func (l *counted) checkMeans(t *testing.T, w []int, c [][]int, data []int) bool {
	t.Helper()
	ahead, err := Posterior(w, c, data)
	all, also := Chance(w, c, data)
	if err != nil || also != nil {
		return false
	}
	means := many(len(w), new(big.Rat))
	parts := []part{entropyPart(ratsOf(ahead), rat(1, 1))}
	for k := range c[0] {
		next := slices.Concat(data, []int{k})
		f, err := Chance(w, c, next)
		if err != nil {
			return false
		}
		behind, err := Posterior(w, c, next)
		if err == api.ErrNone && f.Num == 0 {
			continue
		}
		if err != nil {
			return false
		}
		chance := new(big.Rat).Quo(ratOf(f), ratOf(all))
		for i, x := range behind {
			means[i] = plus(means[i], times(chance, ratOf(x)))
		}
		parts = append(parts, entropyPart(ratsOf(behind), chance.Neg(chance)))
	}
	if !sameRats(means, ratsOf(ahead)) {
		t.Error(w, c, data, means, ahead)
	}
	l.checkNotBelow(t, []any{w, c, data}, parts)
	return true
}

func TestMeans(t *testing.T) {
	var l counted
	seen := 0
	eachSmall(2, func(w []int, c [][]int, data []int) {
		if l.checkMeans(t, w, c, data) {
			seen++
		}
	})
	if seen < 4000 || l.nearly > 0 {
		t.Error(seen, l)
	}
	r := rand.New(rand.NewSource(1832))
	seen, l = 0, counted{}
	for range 3000 {
		w, c := someHypotheses(r, 6)
		if l.checkMeans(t, w, c, someData(r, w, c, r.Intn(3))) {
			seen++
		}
	}
	if seen < 1500 || l.nearly < 300 || l.exactly < 1500 {
		t.Error(seen, l)
	}
}

// Nothing is learnt from what all hypotheses say alike: the entropy stays.
func TestAlike(t *testing.T) {
	c := [][]int{{1, 2, 5}, {2, 4, 10}, {30, 60, 150}}
	for k := range 3 {
		if l, err := Posterior([]int{1, 2, 4}, c, many(40, k)); err != nil || !slices.Equal(l, fracs(1, 7, 2, 7, 4, 7)) {
			t.Error(k, l, err)
		}
	}
}

// checkTests of p against q: Errors falls, and twice of it is not below what the divergence leaves. How many of both were held.
func (l *counted) checkTests(t *testing.T, p, q []int) (falls, leaves int) {
	t.Helper()
	last := api.Frac{}
	for n := range 7 {
		f, err := Errors(p, q, n)
		if err != nil {
			return falls, leaves
		}
		if n > 0 {
			falls++
			if ratOf(f).Cmp(ratOf(last)) > 0 {
				t.Error(p, q, n, f, last)
			}
		}
		last = f
		d, err := dist.Divergence(p, q)
		if err != nil {
			continue
		}
		leaves++
		l.checkNotBelow(t, []any{p, q, n}, []part{logPart(times(rat(2, 1), ratOf(f))), divergencePart(p, q, d, n)})
	}
	return falls, leaves
}

// logPart is the logarithm of a number, which is above 0.
func logPart(r *big.Rat) part {
	out := part{by: rat(1, 1)}
	x, _ := r.Float64()
	out.nearly = math.Log2(x)
	if most := big.NewInt(api.MaxNumber); r.Num().Cmp(most) > 0 || r.Denom().Cmp(most) > 0 {
		out.err = api.ErrBound
		return out
	}
	out.log, out.err = logs.Of(frac(int(r.Num().Int64()), int(r.Denom().Int64())))
	return out
}

func divergencePart(p, q []int, d api.Log, n int) part {
	out := part{log: d, by: rat(n, 1)}
	for i, x := range p {
		if x > 0 {
			a, _ := chance(p, i).Float64()
			b, _ := chance(q, i).Float64()
			out.nearly += float64(n) * a * math.Log2(a/b)
		}
	}
	return out
}

func TestMoreOutcomes(t *testing.T) {
	var l counted
	falls, leaves := 0, 0
	for length, most := range map[int]int{1: 3, 2: 6, 3: 2} {
		eachWeights(length, most, func(p []int) {
			eachWeights(length, most, func(q []int) {
				a, b := l.checkTests(t, p, q)
				falls, leaves = falls+a, leaves+b
			})
		})
	}
	if falls < 10000 || leaves < 10000 || l.exactly < 5000 {
		t.Error(falls, leaves, l)
	}
	r := rand.New(rand.NewSource(1833))
	falls, leaves, l = 0, 0, counted{}
	for range 600 {
		k, heavy := 1+r.Intn(4), []int{9, 60, 4096}[r.Intn(3)]
		a, b := l.checkTests(t, someWeights(r, k, 1+r.Intn(heavy)), someWeights(r, k, 1+r.Intn(heavy)))
		falls, leaves = falls+a, leaves+b
	}
	if falls < 2000 || leaves < 1000 || l.nearly < 100 || l.exactly < 500 {
		t.Error(falls, leaves, l)
	}
}
