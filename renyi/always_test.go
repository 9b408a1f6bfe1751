package renyi

// P174

import (
	"math/big"
	"math/rand"
	"testing"

	"demon/api"
	"demon/dist"
	"demon/logs"
)

// counted: how many were held against each other exactly, and how many only nearly.
type counted struct{ exactly, nearly int }

// checkAtMost: a is at most b: by the exact sign where it is told, else by floats.
func (c *counted) checkAtMost(t *testing.T, what any, a, b api.Log) {
	t.Helper()
	d, err := logs.Add(b, flipped(a))
	if err == nil {
		if sign, err := logs.Sign(d); err == nil {
			c.exactly++
			if sign < 0 {
				t.Error(what, a, "is above", b)
			}
			return
		}
	}
	c.nearly++
	if valueOf(a) > valueOf(b)+1e-9 {
		t.Error(what, a, "is above", b)
	}
}

// flipped: minus a logarithm.
func flipped(a api.Log) api.Log {
	out := api.Log{Den: a.Den}
	for _, x := range a.L {
		out.L = append(out.L, api.Term{Prime: x.Prime, Coef: -x.Coef})
	}
	return out
}

func must(t *testing.T) func(a api.Log, err error) api.Log {
	return func(a api.Log, err error) api.Log {
		t.Helper()
		if err != nil {
			t.Fatal(err)
		}
		return a
	}
}

func (c *counted) checkInOrder(t *testing.T, w []int) {
	t.Helper()
	least, entropy, support := must(t)(Least(w)), must(t)(dist.Entropy(w)), must(t)(Support(w))
	c.checkAtMost(t, w, entropy, support)
	collision, err := Collision(w)
	if err == api.ErrBound {
		c.checkAtMost(t, w, least, entropy)
		return
	}
	c.checkAtMost(t, w, least, must(t)(collision, err))
	c.checkAtMost(t, w, collision, entropy)
}

func TestInOrder(t *testing.T) {
	var c counted
	for length, most := range map[int]int{1: 20, 2: 12, 3: 5, 4: 3} {
		eachWeights(length, most, func(w []int) { c.checkInOrder(t, w) })
	}
	if c.nearly > 0 || c.exactly < 1000 {
		t.Error(c)
	}
	for _, w := range someLists(rand.New(rand.NewSource(1740)), 3000) {
		c.checkInOrder(t, w)
	}
	if c.nearly < 200 || c.exactly < 5000 {
		t.Error(c)
	}
}

// Of even weights all are the same.
func TestEvenWeights(t *testing.T) {
	for n := 1; n <= 16; n++ {
		want := must(t)(logs.Of(frac(n, 1)))
		w := append(many(n, 4096/n), many(16-n, 0)...)
		for i, call := range []func([]int) (api.Log, error){Least, Collision, dist.Entropy, Support} {
			if a, err := call(w); err != nil || !sameLog(a, want) {
				t.Error(w, i, a, err)
			}
		}
	}
}

// checkMassey: whether the entropy is 2 at least, and then what that says of guesses.
func (c *counted) checkMassey(t *testing.T, w []int) bool {
	t.Helper()
	entropy := must(t)(dist.Entropy(w))
	d := must(t)(logs.Add(entropy, must(t)(logs.Of(frac(1, 4)))))
	if sign, err := logs.Sign(d); err == nil && sign < 0 || err != nil && about(w) < 2 {
		return false
	}
	f, err := Guesses(w)
	if err != nil {
		t.Fatal(w, err)
	}
	c.checkAtMost(t, w, entropy, must(t)(logs.Of(frac(4*(f.Num-f.Den), f.Den))))
	return true
}

func TestMassey(t *testing.T) {
	var c counted
	seen := 0
	for length, most := range map[int]int{4: 4, 5: 3, 6: 2, 8: 1} {
		eachWeights(length, most, func(w []int) {
			if c.checkMassey(t, w) {
				seen++
			}
		})
	}
	if seen < 500 || c.nearly > 0 {
		t.Error(seen, c)
	}
	for _, w := range someLists(rand.New(rand.NewSource(1741)), 5000) {
		c.checkMassey(t, w)
	}
	// Weights that fall by one half, nearly, come nearest.
	for n := 4; n <= 12; n++ {
		var w []int
		for i := range n {
			w = append(w, 1<<i)
		}
		c.checkMassey(t, append(w, 1))
		for i := range w {
			w[i] = max(1, w[i]*2/3)
		}
		c.checkMassey(t, w)
	}
	if c.nearly < 200 || c.exactly < 1000 {
		t.Error(c)
	}
}

func TestLinearIsUniversal(t *testing.T) {
	for p, greatest := range map[int]int{2: 4, 3: 9, 5: 16, 7: 16} {
		for most := 1; most <= greatest; most++ {
			f, err := Linear(p, most)
			if err != nil {
				t.Fatal(p, most, err)
			}
			if is, err := Universal(f); !is || err != nil {
				t.Error(p, most, is, err)
			}
		}
	}
}

// leftover tells whether the square of twice Far is at most M times the sum of squares.
func leftover(t *testing.T, f Family, w []int) bool {
	t.Helper()
	far, err := Far(f, w)
	if err != nil {
		t.Fatal(f, w, err)
	}
	twice := rat(2*far.Num, far.Den)
	return times(twice, twice).Cmp(times(rat(f.M, 1), collisionOf(w))) <= 0
}

// checkLeftover, if a family is universal, which it tells.
func checkLeftover(t *testing.T, f Family, w []int) bool {
	t.Helper()
	is, err := Universal(f)
	if err != nil {
		t.Fatal(f, err)
	}
	if is && !leftover(t, f, w) {
		t.Error(f, w)
	}
	return is
}

func TestLeftoverHash(t *testing.T) {
	seen := 0
	check := func(f Family) {
		eachWeights(len(f.L[0]), 2, func(w []int) {
			if checkLeftover(t, f, w) {
				seen++
			}
		})
	}
	for m := 1; m <= 3; m++ {
		eachFamily(1, 3, m, check)
		eachFamily(2, 2, m, check)
		eachFamily(3, 2, m, check)
	}
	eachFamily(2, 4, 2, check)
	if seen < 2000 {
		t.Error(seen)
	}
	r := rand.New(rand.NewSource(1742))
	seen = 0
	for range 3000 {
		f := someFamily(r, 64, []int{2, 3, 5}[r.Intn(3)])
		if checkLeftover(t, f, someWeights(r, len(f.L[0]), 1+r.Intn(4096))) {
			seen++
		}
	}
	if seen < 500 {
		t.Error(seen)
	}
	// What is not universal need not keep it.
	if leftover(t, family(4, []int{0, 0, 0, 0}), []int{1, 1, 1, 1}) {
		t.Error("all that goes to one value")
	}
}

// Linear ones, and families of all functions.
func TestLeftoverOfMany(t *testing.T) {
	var all []Family
	for p, greatest := range map[int]int{2: 4, 3: 9, 5: 16, 7: 16} {
		for most := 1; most <= greatest; most++ {
			f, err := Linear(p, most)
			if err != nil {
				t.Fatal(p, most, err)
			}
			all = append(all, f)
		}
	}
	for _, c := range [][2]int{{2, 2}, {2, 4}, {2, 6}, {3, 3}, {4, 3}, {8, 2}} {
		f := Family{M: c[0]}
		eachRow(c[1], c[0]-1, func(row []int) { f.L = append(f.L, row) })
		all = append(all, f)
	}
	r := rand.New(rand.NewSource(1743))
	for _, f := range all {
		lists := [][]int{many(len(f.L[0]), 1)}
		for range 12 {
			lists = append(lists, someWeights(r, len(f.L[0]), 1+r.Intn(4096)))
		}
		for _, w := range lists {
			if !checkLeftover(t, f, w) {
				t.Error(f, w)
			}
		}
	}
	// One thing alone is at one value of each function: as far from even as can be.
	if f, err := Far(all[0], []int{1}); err != nil || new(big.Rat).SetFrac64(int64(f.Num), int64(f.Den)).Cmp(rat(all[0].M-1, all[0].M)) != 0 {
		t.Error(all[0], f, err)
	}
}
