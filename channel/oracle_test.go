package channel

// What the tests hold the package against: the document's words, by math/big, chance by chance.

import (
	"math"
	"math/big"
	"math/bits"
	"math/rand"
	"slices"
	"testing"

	"demon/api"
	"demon/logs"
)

func many(n, x int) []int { return slices.Repeat([]int{x}, n) }

// with is w with x at the place i.
func with(w []int, i, x int) []int {
	out := slices.Clone(w)
	out[i] = x
	return out
}

// rowsOf are n rows of the weights w.
func rowsOf(n int, w []int) [][]int {
	var out [][]int
	for range n {
		out = append(out, slices.Clone(w))
	}
	return out
}

// clearOne is the channel of n symbols that changes none.
func clearOne(n int) [][]int {
	out := rowsOf(n, many(n, 0))
	for i := range out {
		out[i][i] = 1
	}
	return out
}

// turned are n rows: w, and w with its weights moved on by one place each.
func turned(n int, w []int) [][]int {
	var out [][]int
	for i := range n {
		i %= len(w)
		out = append(out, slices.Concat(w[len(w)-i:], w[:len(w)-i]))
	}
	return out
}

func sumOf(w []int) int {
	n := 0
	for _, x := range w {
		n += x
	}
	return n
}

func sameTable(a, b [][]int) bool { return slices.EqualFunc(a, b, slices.Equal) }

func sameLog(a, b api.Log) bool { return a.Den == b.Den && slices.Equal(a.L, b.L) }

func rat(a, b int) *big.Rat { return big.NewRat(int64(a), int64(b)) }

func ratSum(l []*big.Rat) *big.Rat {
	out := new(big.Rat)
	for _, x := range l {
		out.Add(out, x)
	}
	return out
}

func chancesOf(w []int) []*big.Rat {
	var out []*big.Rat
	for _, x := range w {
		out = append(out, rat(x, sumOf(w)))
	}
	return out
}

// wantTogether: the chance of each symbol that goes in with each one that comes out.
func wantTogether(p []int, c [][]int) [][]*big.Rat {
	var out [][]*big.Rat
	for i, in := range chancesOf(p) {
		row := chancesOf(c[i])
		for _, x := range row {
			x.Mul(x, in)
		}
		out = append(out, row)
	}
	return out
}

// wantBehind: the chances of what comes out of b for each symbol that goes into a.
func wantBehind(a, b [][]int) [][]*big.Rat {
	var out [][]*big.Rat
	for _, w := range a {
		var row []*big.Rat
		for k := range b[0] {
			sum := new(big.Rat)
			for i, x := range chancesOf(w) {
				sum.Add(sum, x.Mul(x, chancesOf(b[i])[k]))
			}
			row = append(row, sum)
		}
		out = append(out, row)
	}
	return out
}

// leastOf are the least whole numbers that have the ratios of fractions: times all denominators, over what then divides all of them.
func leastOf(l []*big.Rat) []*big.Int {
	dens, common := big.NewInt(1), new(big.Int)
	for _, x := range l {
		dens.Mul(dens, x.Denom())
	}
	var out []*big.Int
	for _, x := range l {
		n := new(big.Int).Mul(dens, x.Num())
		n.Quo(n, x.Denom())
		out = append(out, n)
		common.GCD(nil, nil, common, n)
	}
	for _, n := range out {
		n.Quo(n, common)
	}
	return out
}

// leastInts is leastOf, and whether the sum is at most most; else nil.
func leastInts(l []*big.Rat, most int) ([]int, bool) {
	sum := new(big.Int)
	least := leastOf(l)
	for _, n := range least {
		sum.Add(sum, n)
	}
	if sum.Cmp(big.NewInt(int64(most))) > 0 {
		return nil, false
	}
	var out []int
	for _, n := range least {
		out = append(out, int(n.Int64()))
	}
	return out, true
}

// wantTable is nil if there is none.
func wantTable(p []int, c [][]int) [][]int {
	l, ok := leastInts(slices.Concat(wantTogether(p, c)...), 4096)
	if !ok {
		return nil
	}
	var out [][]int
	for row := range slices.Chunk(l, len(c[0])) {
		out = append(out, row)
	}
	return out
}

// wantRows is nil if one of the rows has a sum above 256.
func wantRows(rows [][]*big.Rat) [][]int {
	var out [][]int
	for _, row := range rows {
		l, ok := leastInts(row, 256)
		if !ok {
			return nil
		}
		out = append(out, l)
	}
	return out
}

// sums are coefficients of logarithms, by primes.
type sums map[int]*big.Rat

// put x times the logarithm of n.
func (s sums) put(x *big.Rat, n int) {
	for d := 2; n > 1; d++ {
		for n%d == 0 {
			if s[d] == nil {
				s[d] = new(big.Rat)
			}
			s[d].Add(s[d], x)
			n /= d
		}
	}
}

// putRat x times the logarithm of f.
func (s sums) putRat(x, f *big.Rat) {
	s.put(x, int(f.Num().Int64()))
	s.put(new(big.Rat).Neg(x), int(f.Denom().Int64()))
}

// is it a?
func (s sums) is(a api.Log) bool {
	left := map[int]*big.Rat{}
	for p, x := range s {
		if x.Sign() != 0 {
			left[p] = x
		}
	}
	for _, t := range a.L {
		if x := left[t.Prime]; x == nil || x.Cmp(rat(t.Coef, a.Den)) != 0 {
			return false
		}
		delete(left, t.Prime)
	}
	return len(left) == 0 && logs.Valid(a) == nil
}

// wantThrough: the sum of chances times the logarithm of the chance over the product of those of its row and its column.
func wantThrough(p []int, c [][]int) sums {
	t, s := wantTogether(p, c), sums{}
	for _, row := range t {
		for k, x := range row {
			if x.Sign() == 0 {
				continue
			}
			s.putRat(x, x)
			minus := new(big.Rat).Neg(x)
			s.putRat(minus, ratSum(row))
			s.putRat(minus, ratSum(ratColumn(t, k)))
		}
	}
	return s
}

func ratColumn(t [][]*big.Rat, k int) []*big.Rat {
	var out []*big.Rat
	for _, row := range t {
		out = append(out, row[k])
	}
	return out
}

// wantApart: the divergence of a row from q; nil: q gives no chance to what comes.
func wantApart(w, q []int) sums {
	s, other := sums{}, chancesOf(q)
	for k, x := range chancesOf(w) {
		if x.Sign() == 0 {
			continue
		}
		if other[k].Sign() == 0 {
			return nil
		}
		s.putRat(x, x)
		s.putRat(new(big.Rat).Neg(x), other[k])
	}
	return s
}

func (s sums) less(b sums) sums {
	out := sums{}
	for p, x := range s {
		out.put(x, p)
	}
	for p, x := range b {
		out.put(new(big.Rat).Neg(x), p)
	}
	return out
}

// whole is the sum times the least number that makes all coefficients whole.
func (s sums) whole() map[int]int {
	den := big.NewInt(1)
	for _, x := range s {
		common := new(big.Int).GCD(nil, nil, den, x.Denom())
		den.Mul(den, new(big.Int).Quo(x.Denom(), common))
	}
	out := map[int]int{}
	for p, x := range s {
		out[p] = int(new(big.Int).Quo(new(big.Int).Mul(x.Num(), den), x.Denom()).Int64())
	}
	return out
}

// hasSign: does P13 tell one?
func (s sums) hasSign() bool {
	count := 0
	for p, n := range s.whole() {
		count += max(n, -n) * bits.Len(uint(p))
	}
	return count <= 40000
}

func (s sums) sign() int {
	above, below := big.NewInt(1), big.NewInt(1)
	for p, n := range s.whole() {
		power := new(big.Int).Exp(big.NewInt(int64(p)), big.NewInt(int64(max(n, -n))), nil)
		if n > 0 {
			above.Mul(above, power)
		} else {
			below.Mul(below, power)
		}
	}
	return above.Cmp(below)
}

// wantAbove: the greatest divergence of a row from q, the first row that has it, and the error.
func wantAbove(c [][]int, q []int) (sums, int, error) {
	var all []sums
	for _, row := range c {
		s := wantApart(row, q)
		if s == nil {
			return nil, 0, api.ErrZero
		}
		all = append(all, s)
	}
	at := 0
	for i := range all {
		d := all[i].less(all[at])
		if !d.hasSign() {
			return nil, 0, api.ErrBound
		}
		if d.sign() > 0 {
			at = i
		}
	}
	return all[at], at, nil
}

// isShuffled: can each of a be paired with its like of b?
func isShuffled(a, b []*big.Rat) bool {
	left := slices.Clone(b)
	for _, x := range a {
		k := slices.IndexFunc(left, func(y *big.Rat) bool { return x.Cmp(y) == 0 })
		if k < 0 {
			return false
		}
		left = slices.Delete(left, k, k+1)
	}
	return len(left) == 0
}

func wantEven(c [][]int) bool {
	var rows [][]*big.Rat
	for _, w := range c {
		rows = append(rows, chancesOf(w))
	}
	for _, row := range rows {
		if !isShuffled(row, rows[0]) {
			return false
		}
	}
	first := ratSum(ratColumn(rows, 0))
	for k := range c[0] {
		if ratSum(ratColumn(rows, k)).Cmp(first) != 0 {
			return false
		}
	}
	return true
}

// wantCapacity of an even channel.
func wantCapacity(c [][]int) sums {
	s := sums{}
	s.put(rat(1, 1), len(c[0]))
	for _, x := range chancesOf(c[0]) {
		if x.Sign() > 0 {
			s.putRat(x, x)
		}
	}
	return s
}

// wantGuess: for each symbol that comes out the likeliest one that went in, and the chance that the guess is wrong.
func wantGuess(p []int, c [][]int) ([]int, *big.Rat) {
	t := wantTogether(p, c)
	var guesses []int
	for k := range c[0] {
		at := 0
		for i := range t {
			if t[i][k].Cmp(t[at][k]) > 0 {
				at = i
			}
		}
		if t[at][k].Sign() == 0 {
			at = -1
		}
		guesses = append(guesses, at)
	}
	wrong := new(big.Rat)
	for i, row := range t {
		for k, x := range row {
			if guesses[k] != i {
				wrong.Add(wrong, x)
			}
		}
	}
	return guesses, wrong
}

func isRat(f api.Frac, x *big.Rat) bool {
	return x.Num().IsInt64() && x.Denom().IsInt64() && int64(f.Num) == x.Num().Int64() && int64(f.Den) == x.Denom().Int64()
}

// about is a logarithm's value, nearly.
func about(a api.Log) float64 {
	out := 0.0
	for _, t := range a.L {
		out += float64(t.Coef) / float64(a.Den) * math.Log2(float64(t.Prime))
	}
	return out
}

// sign is exact where the bound of P13 lets it be so; else it is told by floats, 0 where they are too near.
func sign(t *testing.T, a api.Log) int {
	t.Helper()
	n, err := logs.Sign(a)
	if err == nil {
		return n
	}
	switch v := about(a); {
	case v > 1e-9:
		return 1
	case v < -1e-9:
		return -1
	}
	return 0
}

func must(t *testing.T) func(a api.Log, err error) api.Log {
	return func(a api.Log, err error) api.Log {
		t.Helper()
		if err != nil {
			t.Fatal(err)
		}
		return a
	}
}

func text(t *testing.T, a api.Log, err error) string {
	t.Helper()
	s, bad := logs.Text(must(t)(a, err))
	if bad != nil {
		t.Fatal(bad)
	}
	return s
}

// difference is a less b.
func difference(t *testing.T, a, b api.Log) api.Log {
	t.Helper()
	minus := must(t)(logs.Scale(b, api.Frac{Num: -1, Den: 1}))
	return must(t)(logs.Add(a, minus))
}

// someWeights are n of them, not all 0, with a sum up to most; some are 0.
func someWeights(r *rand.Rand, n, most int) []int {
	w := make([]int, n)
	for {
		left := most
		for _, i := range r.Perm(n) {
			if w[i] = 0; r.Intn(4) > 0 {
				w[i] = r.Intn(left + 1)
				if r.Intn(2) > 0 {
					w[i] = r.Intn(2*left/n + 1)
				}
				w[i] = min(w[i], left)
			}
			left -= w[i]
		}
		if left < most {
			return w
		}
	}
}

// ofTotal are n weights whose sum is all.
func ofTotal(r *rand.Rand, n, all int) []int {
	w := make([]int, n)
	for range all {
		w[r.Intn(n)]++
	}
	return w
}

// someChannel with so many rows and columns. Of some all rows have one sum, as else few tables are told.
func someChannel(r *rand.Rand, rows, columns int) [][]int {
	var out [][]int
	most, all := []int{2, 6, 16, 256}[r.Intn(4)], 1+r.Intn(24)
	one := r.Intn(2) > 0
	for range rows {
		if one {
			out = append(out, ofTotal(r, columns, all))
		} else {
			out = append(out, someWeights(r, columns, most))
		}
	}
	return out
}

func someSize(r *rand.Rand) int {
	if r.Intn(4) == 0 {
		return 1 + r.Intn(16)
	}
	return 1 + r.Intn(4)
}

// allWeights are all lists of n weights, each up to most, but the one of nothing but 0.
func allWeights(n, most int) [][]int {
	out := [][]int{nil}
	for range n {
		var longer [][]int
		for _, w := range out {
			for x := range most + 1 {
				longer = append(longer, append(w[:len(w):len(w)], x))
			}
		}
		out = longer
	}
	return out[1:]
}

// eachChannel with so many rows and columns, and weights up to most.
func eachChannel(rows, columns, most int, visit func(c [][]int)) {
	lists := allWeights(columns, most)
	c := make([][]int, rows)
	var fill func(at int)
	fill = func(at int) {
		if at == rows {
			visit(c)
			return
		}
		for _, w := range lists {
			c[at] = w
			fill(at + 1)
		}
	}
	fill(0)
}
