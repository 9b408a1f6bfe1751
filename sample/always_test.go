package sample

// P145

import (
	"math"
	"math/big"
	"math/rand"
	"testing"

	"demon/api"
	"demon/chain"
	"demon/dist"
	"demon/logs"
)

// checkRows of k bits: no more come to an outcome than its chance says, and what lacks is as much as comes to none; the mean of what they read is at most Flips. Both are just that if the weights need no `again` and k is as much as the tree is deep.
func checkRows(t *testing.T, w []int, k int) {
	t.Helper()
	come, open, read := make([]int, len(w)), 0, 0
	eachBits(k, func(s string) {
		which, used, err := Draw(w, s)
		switch err {
		case nil:
			come[which]++
			read += used
		case api.ErrNone:
			open++
			read += k
		default:
			t.Fatal(w, s, err)
		}
	})
	sum, all := sumOf(w), 1<<k
	whole := sum == powerFor(sum) && all >= sum
	for i, n := range come {
		if n*sum > w[i]*all || whole && n*sum != w[i]*all {
			t.Error(w, k, come, open)
		}
	}
	if sumOf(come)+open != all || whole && open != 0 {
		t.Error(w, k, come, open)
	}
	f, err := Flips(w)
	if mean := rat(read, all).Cmp(rat(f.Num, f.Den)); err != nil || mean > 0 || whole && mean != 0 {
		t.Error(w, k, read, f, err)
	}
}

func TestRows(t *testing.T) {
	for _, w := range smallWeights(3, 4) {
		for k := range 8 {
			checkRows(t, w, k)
		}
	}
	r := rand.New(rand.NewSource(145))
	for k := range 100 {
		w := someWeights(r, 256)
		checkRows(t, w, 8+k%4)
		checkRows(t, evenSum(w), 8+k%4)
	}
}

// As bits go on, what lacks goes to nothing: of each round less than half comes to `again`.
func TestRowsLess(t *testing.T) {
	for _, w := range [][]int{{1, 1, 1}, {3}, {2, 3}, {1, 4}, {5, 1, 0, 3}} {
		open := 1 << 16
		for k := 4; k <= 16; k += 4 {
			before := open
			open = 0
			eachBits(k, func(s string) {
				if _, _, err := Draw(w, s); err != nil {
					open += 1 << (16 - k)
				}
			})
			if 2*open > before {
				t.Error(w, k, open, before)
			}
		}
	}
}

// less is Flips, as a logarithm of 2 to its power, less the entropy.
func less(w []int) (api.Log, error) {
	f, err := Flips(w)
	if err != nil {
		return api.Log{}, err
	}
	two, err := logs.Of(frac(2, 1))
	if err != nil {
		return api.Log{}, err
	}
	a, err := logs.Scale(two, f)
	if err != nil {
		return api.Log{}, err
	}
	h, err := dist.Entropy(w)
	if err != nil {
		return api.Log{}, err
	}
	if h, err = logs.Scale(h, frac(-1, 1)); err != nil {
		return api.Log{}, err
	}
	return logs.Add(a, h)
}

// checkEntropy exactly; false: the powers that would be compared are too great.
func checkEntropy(t *testing.T, w []int) bool {
	t.Helper()
	a, err := less(w)
	if err != nil {
		t.Fatal(w, err)
	}
	sign, err := logs.Sign(a)
	if err == api.ErrBound {
		return false
	}
	if err != nil || sign < 0 {
		t.Error(w, a, sign, err)
	}
	if sumOf(w) == powerFor(sumOf(w)) {
		b, err := logs.Add(a, api.Log{Den: 1, L: []api.Term{{Prime: 2, Coef: -2}}})
		if err != nil {
			t.Fatal(w, err)
		}
		if sign, err := logs.Sign(b); err != api.ErrBound && (sign != -1 || err != nil) {
			t.Error(w, b, sign, err)
		}
	}
	return true
}

// checkNearly is checkEntropy with floats, where the numbers are too great to do it exactly.
func checkNearly(t *testing.T, w []int) {
	t.Helper()
	f, err := Flips(w)
	if err != nil {
		t.Fatal(w, err)
	}
	h, all := 0.0, float64(sumOf(w))
	for _, n := range w {
		if n > 0 {
			h += float64(n) / all * math.Log2(all/float64(n))
		}
	}
	over := float64(f.Num)/float64(f.Den) - h
	if over < -1e-9 || sumOf(w) == powerFor(sumOf(w)) && over > 2-1e-9 {
		t.Error(w, f, h)
	}
}

func TestEntropy(t *testing.T) {
	for _, w := range smallWeights(4, 6) {
		if !checkEntropy(t, w) {
			t.Error(w)
		}
	}
	r := rand.New(rand.NewSource(1451))
	exact := 0
	for k := range 2000 {
		w := someWeights(r, []int{10, 60, 300, 4096}[k%4])
		for _, w := range [][]int{w, evenSum(w)} {
			if checkEntropy(t, w) {
				exact++
			}
			checkNearly(t, w)
		}
	}
	if exact < 2000 {
		t.Error(exact)
	}
	for n := range 4096 {
		checkNearly(t, []int{n, 4096 - n})
		checkNearly(t, []int{n / 2, n - n/2, 4096 - n})
	}
}

// With just as many bits as the entropy says, if all chances are powers of a half.
func TestEntropyJust(t *testing.T) {
	for _, w := range [][]int{{1}, {1, 1}, {2, 1, 1}, {1, 1, 2, 4}, {1, 0, 1}, many(16, 1), {2048, 1024, 512, 256, 256}} {
		if a, err := less(w); err != nil || a.Den != 1 || len(a.L) != 0 {
			t.Error(w, a, err)
		}
	}
}

func someTape(r *rand.Rand, rules, steps int) []int {
	out := make([]int, steps)
	for i := range out {
		out[i] = r.Intn(rules)
	}
	return out
}

func TestStays(t *testing.T) {
	r := rand.New(rand.NewSource(1452))
	ended := 0
	for range 3000 {
		rules := someRules(r, 1+r.Intn(16), 1+r.Intn(16))
		tape := someTape(r, len(rules), 1+r.Intn(120))
		state, used, ok, err := Past(rules, tape)
		if err != nil {
			t.Fatal(rules, tape, err)
		}
		if !ok {
			continue
		}
		ended++
		longer := append(tape, someTape(r, len(rules), 200)...)
		for length := used; length <= len(longer); length += 1 + r.Intn(20) {
			s, u, ok, err := Past(rules, longer[:length])
			if s != state || u != used || !ok || err != nil {
				t.Error(rules, longer[:length], s, u, ok, err, state, used)
			}
			// Also if more of the last steps are taken than it needs.
			if s, one := led(rules, longer[:length]); s != state || !one {
				t.Error(rules, longer[:length], s, one, state)
			}
		}
	}
	if ended < 500 {
		t.Error(ended)
	}
}

// chainOf rules, each as likely.
func chainOf(r Rules) [][]int {
	out := make([][]int, len(r[0]))
	for i := range out {
		out[i] = make([]int, len(r[0]))
		for _, rule := range r {
			out[i][rule[i]]++
		}
	}
	return out
}

// checkStationary tells the ends of all tapes, and whether there are chances that stay; an end comes at most as often as its chance is.
func checkStationary(t *testing.T, r Rules, steps int) bool {
	t.Helper()
	chances, err := chain.Stationary(chainOf(r))
	if err == api.ErrNone {
		return false
	}
	if err != nil {
		t.Fatal(r, err)
	}
	ends, open, err := Ends(r, steps)
	all := tapesOf(len(r), steps)
	if err != nil || sumOf(ends)+open != all {
		t.Fatal(r, steps, ends, open, err)
	}
	for i, n := range ends {
		if new(big.Rat).SetFrac64(int64(n), int64(all)).Cmp(rat(chances[i].Num, chances[i].Den)) > 0 {
			t.Error(r, steps, ends, open, chances)
		}
	}
	return true
}

func TestStationary(t *testing.T) {
	for _, a := range risings(3) {
		for _, b := range risings(3) {
			for steps := range 7 {
				checkStationary(t, Rules{a, b}, steps)
			}
		}
	}
	r := rand.New(rand.NewSource(1453))
	seen := 0
	for range 600 {
		rules := someRules(r, 1+r.Intn(8), 1+r.Intn(16))
		steps := r.Intn(7)
		for tapesOf(len(rules), steps) > 20000 {
			steps--
		}
		if checkStationary(t, rules, steps) {
			seen++
		}
	}
	if seen < 300 {
		t.Error(seen)
	}
}
