package bayes

// What the tests hold the package against: the document's words, by chances of math/big, hypothesis by hypothesis and row by row.

import (
	"math"
	"math/big"
	"math/rand"
	"slices"
	"testing"

	"demon/api"
)

func many[T any](n int, x T) []T { return slices.Repeat([]T{x}, n) }

func frac(num, den int) api.Frac { return api.Frac{Num: num, Den: den} }

// fracs: a number and what is below it, again and again.
func fracs(l ...int) []api.Frac {
	var out []api.Frac
	for pair := range slices.Chunk(l, 2) {
		out = append(out, frac(pair[0], pair[1]))
	}
	return out
}

func rat(num, den int) *big.Rat { return big.NewRat(int64(num), int64(den)) }

func ratOf(f api.Frac) *big.Rat { return rat(f.Num, f.Den) }

func plus(a, b *big.Rat) *big.Rat { return new(big.Rat).Add(a, b) }

func times(a, b *big.Rat) *big.Rat { return new(big.Rat).Mul(a, b) }

func sumOf(w []int) int {
	n := 0
	for _, x := range w {
		n += x
	}
	return n
}

func sumOfRats(l []*big.Rat) *big.Rat {
	out := new(big.Rat)
	for _, r := range l {
		out = plus(out, r)
	}
	return out
}

// isTold tells whether an answer is what is wanted, or the error, if a number of it is above MaxTold.
func isTold(f api.Frac, err error, want *big.Rat) bool {
	if isLong(want) {
		return f == api.Frac{} && err == api.ErrBound
	}
	return err == nil && f.Den > 0 && big.NewInt(int64(f.Num)).Cmp(want.Num()) == 0 && big.NewInt(int64(f.Den)).Cmp(want.Denom()) == 0
}

func isLong(r *big.Rat) bool {
	most := big.NewInt(api.MaxTold)
	return r.Num().Cmp(most) > 0 || r.Denom().Cmp(most) > 0
}

// chance of one outcome by weights.
func chance(w []int, k int) *big.Rat { return rat(w[k], sumOf(w)) }

// chanceOfRow: outcomes one behind the other, apart from one another.
func chanceOfRow(w []int, row []int) *big.Rat {
	out := rat(1, 1)
	for _, k := range row {
		out = times(out, chance(w, k))
	}
	return out
}

// wantJoint: chances of each hypothesis together with the data.
func wantJoint(w []int, c [][]int, data []int) []*big.Rat {
	var out []*big.Rat
	for i := range w {
		out = append(out, times(chance(w, i), chanceOfRow(c[i], data)))
	}
	return out
}

// wantPosterior by the rule of Bayes; nil: there is none.
func wantPosterior(w []int, c [][]int, data []int) []*big.Rat {
	parts := wantJoint(w, c, data)
	all := sumOfRats(parts)
	if all.Sign() == 0 {
		return nil
	}
	for i, r := range parts {
		parts[i] = new(big.Rat).Quo(r, all)
	}
	return parts
}

// likeliest of chances: the first one.
func likeliest(l []*big.Rat) int {
	for i, r := range l {
		if !slices.ContainsFunc(l, func(other *big.Rat) bool { return other.Cmp(r) > 0 }) {
			return i
		}
	}
	return -1
}

// learnt: how many cases of each kind were held against the document's words.
type learnt struct{ told, none, long, chanceLong int }

// check Chance, Posterior and Choice.
func (l *learnt) check(t *testing.T, w []int, c [][]int, data []int) {
	t.Helper()
	f, err := Chance(w, c, data)
	want := sumOfRats(wantJoint(w, c, data))
	if !isTold(f, err, want) {
		t.Error(w, c, data, f, err, want)
	}
	if isLong(want) {
		l.chanceLong++
	}
	chances, err := Posterior(w, c, data)
	choice, also := Choice(w, c, data)
	if err != also {
		t.Error(w, c, data, err, also)
	}
	behind := wantPosterior(w, c, data)
	var wantErr error
	switch {
	case behind == nil:
		l.none++
		wantErr = api.ErrNone
	case slices.ContainsFunc(behind, isLong):
		l.long++
		wantErr = api.ErrBound
	}
	if wantErr != nil {
		if err != wantErr || len(chances) > 0 || choice != 0 {
			t.Error(w, c, data, chances, choice, err, wantErr)
		}
		return
	}
	l.told++
	if err != nil || len(chances) != len(w) || choice != likeliest(behind) {
		t.Error(w, c, data, chances, choice, err, behind)
		return
	}
	for i, f := range chances {
		if !isTold(f, nil, behind[i]) {
			t.Error(w, c, data, i, f, behind[i])
		}
	}
}

// wantErrors by the words: over all rows the lesser one of both their chances.
func wantErrors(p, q []int, n int) *big.Rat {
	out := new(big.Rat)
	eachRow(n, len(p)-1, func(row []int) {
		a, b := chanceOfRow(p, row), chanceOfRow(q, row)
		if b.Cmp(a) < 0 {
			a = b
		}
		out = plus(out, a)
	})
	return out
}

// leastOfTests: of all sets of rows behind which q is told, the least sum of both chances to be wrong.
func leastOfTests(p, q []int, n int) *big.Rat {
	var rows [][]int
	eachRow(n, len(p)-1, func(row []int) { rows = append(rows, row) })
	var least *big.Rat
	for set := range 1 << len(rows) {
		wrong := new(big.Rat)
		for i, row := range rows {
			if set>>i&1 == 1 {
				wrong = plus(wrong, chanceOfRow(p, row))
			} else {
				wrong = plus(wrong, chanceOfRow(q, row))
			}
		}
		if least == nil || wrong.Cmp(least) < 0 {
			least = wrong
		}
	}
	return least
}

// byCounts: as wantErrors, but all rows of the same counts at once.
func byCounts(p, q []int, n int) *big.Rat {
	out := new(big.Rat)
	eachRow(len(p), n, func(counts []int) {
		if sumOf(counts) != n {
			return
		}
		ways, left, row := big.NewInt(1), int64(n), []int{}
		for k, x := range counts {
			ways.Mul(ways, new(big.Int).Binomial(left, int64(x)))
			left -= int64(x)
			row = append(row, many(x, k)...)
		}
		a, b := chanceOfRow(p, row), chanceOfRow(q, row)
		if b.Cmp(a) < 0 {
			a = b
		}
		out = plus(out, times(new(big.Rat).SetInt(ways), a))
	})
	return out
}

// eachRow of n numbers from 0 to most.
func eachRow(n, most int, do func(row []int)) {
	row := make([]int, n)
	var from func(at int)
	from = func(at int) {
		if at == n {
			do(slices.Clone(row))
			return
		}
		for x := range most + 1 {
			row[at] = x
			from(at + 1)
		}
	}
	from(0)
}

// eachWeights of length n up to most, but those of nothing but 0.
func eachWeights(n, most int, do func(w []int)) {
	eachRow(n, most, func(row []int) {
		if sumOf(row) > 0 {
			do(row)
		}
	})
}

// eachChannel of so many rows and outcomes, weights up to most.
func eachChannel(rows, outcomes, most int, do func(c [][]int)) {
	eachRow(rows*outcomes, most, func(all []int) {
		c := slices.Collect(slices.Chunk(all, outcomes))
		if !slices.ContainsFunc(c, func(row []int) bool { return sumOf(row) == 0 }) {
			do(c)
		}
	})
}

// eachSmall: hypotheses, their rows of two or three outcomes, and up to longest data.
func eachSmall(longest int, do func(w []int, c [][]int, data []int)) {
	for _, size := range []struct{ rows, outcomes, most, mostHere int }{{1, 1, 2, 2}, {1, 3, 2, 2}, {2, 1, 2, 3}, {2, 2, 2, 2}, {2, 3, 1, 2}, {3, 2, 1, 2}} {
		eachChannel(size.rows, size.outcomes, size.most, func(c [][]int) {
			eachWeights(size.rows, size.mostHere, func(w []int) {
				for n := range longest + 1 {
					eachRow(n, size.outcomes-1, func(data []int) { do(w, c, data) })
				}
			})
		})
	}
}

// someWeights: n of them, whose sum is all at most; some are 0, one is above 0.
func someWeights(r *rand.Rand, n, all int) []int {
	w := make([]int, n)
	sharp := []float64{0.3, 1, 4}[r.Intn(3)]
	for i := range w {
		if r.Intn(5) > 0 {
			w[i] = int(float64(all) / float64(n) * math.Pow(r.Float64(), sharp))
		}
	}
	w[r.Intn(n)] += max(1, (all-sumOf(w))/(1+r.Intn(3)))
	return w
}

// someHypotheses: weights and rows: few and many, light and heavy.
func someHypotheses(r *rand.Rand, most int) ([]int, [][]int) {
	n, outcomes, heavy := 1+r.Intn(most), 1+r.Intn(most), []int{2, 9, 256}[r.Intn(3)]
	var c [][]int
	for range n {
		c = append(c, someWeights(r, outcomes, 1+r.Intn(heavy)))
	}
	return someWeights(r, n, 1+r.Intn([]int{6, 60, 4096}[r.Intn(3)])), c
}

// someData: so many outcomes; most often those that a hypothesis drawn by its weight gives.
func someData(r *rand.Rand, w []int, c [][]int, n int) []int {
	row := c[drawn(r, w)]
	data := make([]int, n)
	for i := range data {
		data[i] = drawn(r, row)
	}
	if n > 0 && r.Intn(8) == 0 {
		data[r.Intn(n)] = r.Intn(len(row))
	}
	return data
}

// drawn by weights.
func drawn(r *rand.Rand, w []int) int {
	left := r.Intn(sumOf(w))
	for k, x := range w {
		if left -= x; left < 0 {
			return k
		}
	}
	return -1
}

func TestSmallHypotheses(t *testing.T) {
	var l learnt
	eachSmall(3, func(w []int, c [][]int, data []int) { l.check(t, w, c, data) })
	if l.told < 5000 || l.none < 1000 || l.long > 0 || l.chanceLong > 0 {
		t.Error(l)
	}
}

func TestSomeHypotheses(t *testing.T) {
	r := rand.New(rand.NewSource(180))
	var short, long learnt
	for range 3000 {
		w, c := someHypotheses(r, 5)
		short.check(t, w, c, someData(r, w, c, r.Intn(8)))
	}
	for range 2000 {
		w, c := someHypotheses(r, 16)
		long.check(t, w, c, someData(r, w, c, []int{r.Intn(41), 40}[r.Intn(2)]))
	}
	if short.told < 1500 || short.none < 50 || short.long < 50 || short.chanceLong < 50 {
		t.Error(short)
	}
	if long.told < 1000 || long.none < 100 || long.long < 150 || long.chanceLong < 400 {
		t.Error(long)
	}
}

// Of all ways to tell p from q, also such that do not look at chances, none is wrong less often.
func TestLeastOfTests(t *testing.T) {
	for _, size := range []struct{ weights, most, longest int }{{1, 3, 2}, {2, 3, 3}, {3, 2, 1}, {4, 1, 1}} {
		eachWeights(size.weights, size.most, func(p []int) {
			eachWeights(size.weights, size.most, func(q []int) {
				for n := range size.longest + 1 {
					if f, err := Errors(p, q, n); !isTold(f, err, leastOfTests(p, q, n)) {
						t.Error(p, q, n, f, err)
					}
				}
			})
		})
	}
	p, q := []int{1, 2, 2}, []int{3, 1, 2}
	if f, err := Errors(p, q, 2); !isTold(f, err, leastOfTests(p, q, 2)) {
		t.Error(f, err)
	}
}

func TestSmallErrors(t *testing.T) {
	eachWeights(2, 3, func(p []int) {
		eachWeights(2, 3, func(q []int) {
			for n := range 7 {
				if f, err := Errors(p, q, n); !isTold(f, err, wantErrors(p, q, n)) {
					t.Error(p, q, n, f, err)
				}
			}
		})
	})
}

func TestSomeErrors(t *testing.T) {
	r := rand.New(rand.NewSource(181))
	told, long := 0, 0
	for range 1500 {
		k, heavy := 1+r.Intn(4), []int{4, 30, 4096}[r.Intn(3)]
		p, q, n := someWeights(r, k, 1+r.Intn(heavy)), someWeights(r, k, 1+r.Intn(heavy)), r.Intn(7)
		want := byCounts(p, q, n)
		if f, err := Errors(p, q, n); !isTold(f, err, want) {
			t.Error(p, q, n, f, err, want)
		}
		if isLong(want) {
			long++
		} else {
			told++
		}
	}
	if told < 500 || long < 80 {
		t.Error(told, long)
	}
}
