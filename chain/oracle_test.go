package chain

// What the tests hold the package against: the document's words, by math/big and by going through ways one by one.

import (
	"math/big"
	"math/rand"
	"slices"
	"testing"

	"demon/api"
)

func rat(n, d int) *big.Rat { return big.NewRat(int64(n), int64(d)) }

func ratOf(f api.Frac) *big.Rat { return rat(f.Num, f.Den) }

func sumOf(w []int) int {
	n := 0
	for _, x := range w {
		n += x
	}
	return n
}

// chance of going from i to k.
func chance(c [][]int, i, k int) *big.Rat { return rat(c[i][k], sumOf(c[i])) }

// tellable: are both numbers at most MaxTold in size?
func tellable(r *big.Rat) bool {
	most := big.NewInt(api.MaxTold)
	return r.Num().CmpAbs(most) <= 0 && r.Denom().Cmp(most) <= 0
}

// checkFracs: the fractions are those that are wanted, in their lowest terms; or, if one cannot be told, ErrBound and nothing else.
func checkFracs(t *testing.T, what any, got []api.Frac, err error, want []*big.Rat) {
	t.Helper()
	for _, r := range want {
		if !tellable(r) {
			if err != api.ErrBound || len(got) != 0 {
				t.Error(what, got, err, "want", want)
			}
			return
		}
	}
	if err != nil || len(got) != len(want) {
		t.Error(what, got, err, "want", want)
		return
	}
	for i, f := range got {
		if int64(f.Num) != want[i].Num().Int64() || int64(f.Den) != want[i].Denom().Int64() {
			t.Error(what, got, "want", want)
			return
		}
	}
}

// after are the states in which one may be after so many steps from one.
func after(c [][]int, from, steps int) []bool {
	now := make([]bool, len(c))
	now[from] = true
	for range steps {
		next := make([]bool, len(c))
		for i, here := range now {
			for k, x := range c[i] {
				next[k] = next[k] || here && x > 0
			}
		}
		now = next
	}
	return now
}

// comes: can one come from i to k, by no step or more?
func comes(c [][]int, i, k int) bool {
	for n := range len(c) {
		if after(c, i, n)[k] {
			return true
		}
	}
	return false
}

func wantClasses(c [][]int) []int {
	out := make([]int, len(c))
	for i := range c {
		for k := len(c) - 1; k >= 0; k-- {
			if comes(c, i, k) && comes(c, k, i) {
				out[i] = k
			}
		}
	}
	return out
}

func wantClosed(c [][]int) []int {
	var out []int
	for i, least := range wantClasses(c) {
		left := i != least
		for k := range c {
			left = left || comes(c, i, k) && !comes(c, k, i)
		}
		if !left {
			out = append(out, i)
		}
	}
	return out
}

// wantPeriod goes all ways back that are not longer than three times as many steps as there are states: any way round, joined to one to it and one back.
func wantPeriod(c [][]int, i int) int {
	out := 0
	for n := 1; n <= 3*len(c); n++ {
		if after(c, i, n)[i] {
			out = int(new(big.Int).GCD(nil, nil, big.NewInt(int64(out)), big.NewInt(int64(n))).Int64())
		}
	}
	return out
}

// solve x of a system of equations, rows of coefficients and the right side, that has one.
func solve(t *testing.T, rows [][]*big.Rat) []*big.Rat {
	t.Helper()
	n := len(rows[0]) - 1
	for col := range n {
		at := slices.IndexFunc(rows[col:], func(row []*big.Rat) bool { return row[col].Sign() != 0 })
		if at < 0 {
			t.Fatal("no one answer")
		}
		rows[col], rows[col+at] = rows[col+at], rows[col]
		by := new(big.Rat).Inv(rows[col][col])
		for _, x := range rows[col] {
			x.Mul(x, by)
		}
		for i, row := range rows {
			if i == col {
				continue
			}
			f := new(big.Rat).Set(row[col])
			for k, x := range row {
				x.Sub(x, new(big.Rat).Mul(f, rows[col][k]))
			}
		}
	}
	out := make([]*big.Rat, n)
	for i := range n {
		out[i] = rows[i][n]
	}
	return out
}

func one(is bool) *big.Rat {
	if is {
		return rat(1, 1)
	}
	return rat(0, 1)
}

// wantStationary: a step keeps each chance, and they are 1 together.
func wantStationary(t *testing.T, c [][]int) []*big.Rat {
	var rows [][]*big.Rat
	all := make([]*big.Rat, len(c)+1)
	for i := range all {
		all[i] = rat(1, 1)
	}
	for k := range c {
		row := make([]*big.Rat, len(c)+1)
		for i := range c {
			row[i] = new(big.Rat).Sub(chance(c, i, k), one(i == k))
		}
		row[len(c)] = rat(0, 1)
		rows = append(rows, row)
	}
	return solve(t, append(rows, all))
}

// wantHitting: of some states, a step and what it takes from where it leads. From each of them `to` must be come to, and none is left but for another or for `to`.
func wantHitting(t *testing.T, c [][]int, states []int, to int) []*big.Rat {
	var rows [][]*big.Rat
	for _, i := range states {
		row := make([]*big.Rat, len(states)+1)
		for at, k := range states {
			row[at] = one(i == k)
			if i != to {
				row[at].Sub(row[at], chance(c, i, k))
			}
		}
		row[len(states)] = one(i != to)
		rows = append(rows, row)
	}
	return solve(t, rows)
}

// wantReturn is a step and what it takes from where it leads.
func wantReturn(t *testing.T, c [][]int, to int) *big.Rat {
	var states []int
	for k := range c {
		if comes(c, to, k) {
			states = append(states, k)
		}
	}
	out := rat(1, 1)
	for at, x := range wantHitting(t, c, states, to) {
		out.Add(out, new(big.Rat).Mul(x, chance(c, to, states[at])))
	}
	return out
}

func oneStep(c [][]int, p []*big.Rat) []*big.Rat {
	out := make([]*big.Rat, len(c))
	for k := range c {
		out[k] = rat(0, 1)
		for i := range c {
			out[k].Add(out[k], new(big.Rat).Mul(p[i], chance(c, i, k)))
		}
	}
	return out
}

func wantAfter(c [][]int, w []int, steps int) []*big.Rat {
	now := make([]*big.Rat, len(w))
	for i, x := range w {
		now[i] = rat(x, sumOf(w))
	}
	for range steps {
		now = oneStep(c, now)
	}
	return now
}

// someChain has n states; of a hundred weights as many are 0 as `none` says.
func someChain(r *rand.Rand, n, none, most int) [][]int {
	c := make([][]int, n)
	for i := range c {
		c[i] = make([]int, n)
		for k := range c[i] {
			if r.Intn(100) >= none {
				c[i][k] = 1 + r.Intn(most)
			}
		}
		if sumOf(c[i]) == 0 {
			c[i][r.Intn(n)] = 1 + r.Intn(most)
		}
	}
	return c
}

func someChains(seed int64) [][][]int {
	r := rand.New(rand.NewSource(seed))
	var out [][][]int
	for n := 1; n <= api.MaxStates; n++ {
		for _, none := range []int{0, 30, 60, 80, 90} {
			for _, most := range []int{1, 2, 3, 20, api.MaxWeight / n} {
				for range 4 {
					out = append(out, someChain(r, n, none, most))
				}
			}
		}
	}
	return out
}

// allChains of n states with weights 0 and 1.
func allChains(n int) [][][]int {
	var out [][][]int
	for bits := range 1 << (n * n) {
		c := make([][]int, n)
		for i := range c {
			for k := range n {
				c[i] = append(c[i], bits>>(i*n+k)&1)
			}
		}
		if Valid(c) == nil {
			out = append(out, c)
		}
	}
	return out
}
