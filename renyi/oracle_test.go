package renyi

// What the tests hold the package against: the document's words, by chances of math/big, thing by thing and function by function.

import (
	"math"
	"math/big"
	"math/rand"
	"slices"
	"testing"

	"demon/api"
	"demon/logs"
)

func many[T any](n int, x T) []T { return slices.Repeat([]T{x}, n) }

func frac(num, den int) api.Frac { return api.Frac{Num: num, Den: den} }

func rat(num, den int) *big.Rat { return big.NewRat(int64(num), int64(den)) }

func plus(a, b *big.Rat) *big.Rat { return new(big.Rat).Add(a, b) }

func minus(a, b *big.Rat) *big.Rat { return new(big.Rat).Sub(a, b) }

func times(a, b *big.Rat) *big.Rat { return new(big.Rat).Mul(a, b) }

func sumOf(w []int) int {
	n := 0
	for _, x := range w {
		n += x
	}
	return n
}

// chances of weights.
func chances(w []int) []*big.Rat {
	var out []*big.Rat
	for _, x := range w {
		out = append(out, rat(x, sumOf(w)))
	}
	return out
}

func isFrac(f api.Frac, want *big.Rat) bool {
	return f.Den > 0 && big.NewInt(int64(f.Num)).Cmp(want.Num()) == 0 && big.NewInt(int64(f.Den)).Cmp(want.Denom()) == 0
}

func sameLog(a, b api.Log) bool { return a.Den == b.Den && slices.Equal(a.L, b.L) }

// logOf a number above 0, by its factors: false, if one of its numbers is above MaxNumber.
func logOf(t *testing.T, r *big.Rat) (api.Log, bool) {
	t.Helper()
	most := big.NewInt(api.MaxNumber)
	if r.Num().Cmp(most) > 0 || r.Denom().Cmp(most) > 0 {
		return api.Log{}, false
	}
	a, err := logs.Of(frac(int(r.Num().Int64()), int(r.Denom().Int64())))
	if err != nil {
		t.Fatal(r, err)
	}
	return a, true
}

// collisionOf weights: the chance that two that come are the same, pair by pair.
func collisionOf(w []int) *big.Rat {
	out, all := new(big.Rat), chances(w)
	for i, x := range all {
		for k, y := range all {
			if i == k {
				out = plus(out, times(x, y))
			}
		}
	}
	return out
}

func greatest(l []*big.Rat) *big.Rat {
	out := l[0]
	for _, r := range l {
		if r.Cmp(out) > 0 {
			out = r
		}
	}
	return out
}

// guessesBy an order: the mean of how many come, up to the one that it is.
func guessesBy(w []int, order []int) *big.Rat {
	out, all := new(big.Rat), chances(w)
	for i, thing := range order {
		out = plus(out, times(rat(i+1, 1), all[thing]))
	}
	return out
}

// eachOrder of n things.
func eachOrder(n int, do func(order []int)) {
	order := make([]int, n)
	for i := range order {
		order[i] = i
	}
	var from func(at int)
	from = func(at int) {
		if at == n {
			do(order)
			return
		}
		for i := at; i < n; i++ {
			order[at], order[i] = order[i], order[at]
			from(at + 1)
			order[at], order[i] = order[i], order[at]
		}
	}
	from(0)
}

// wantGuesses: the least of all orders.
func wantGuesses(w []int) *big.Rat {
	var least *big.Rat
	eachOrder(len(w), func(order []int) {
		if g := guessesBy(w, order); least == nil || g.Cmp(least) < 0 {
			least = g
		}
	})
	return least
}

// greedy: the mean, if the likeliest one that is left is always guessed.
func greedy(w []int) *big.Rat {
	left := slices.Clone(w)
	var order []int
	for range w {
		i := slices.Index(left, slices.Max(left))
		order, left[i] = append(order, i), -1
	}
	return guessesBy(w, order)
}

// wantUniversal: chances of each two things over all functions.
func wantUniversal(f Family) bool {
	for x := range f.L[0] {
		for y := range f.L[0] {
			if x == y {
				continue
			}
			meet := new(big.Rat)
			for _, row := range f.L {
				if row[x] == row[y] {
					meet = plus(meet, rat(1, len(f.L)))
				}
			}
			if meet.Cmp(rat(1, f.M)) > 0 {
				return false
			}
		}
	}
	return true
}

// wantFar: function by function and value by value.
func wantFar(f Family, w []int) *big.Rat {
	sum, all := new(big.Rat), chances(w)
	for _, row := range f.L {
		for value := range f.M {
			both := new(big.Rat)
			for x := range w {
				if row[x] == value {
					both = plus(both, times(rat(1, len(f.L)), all[x]))
				}
			}
			apart := minus(both, rat(1, len(f.L)*f.M))
			sum = plus(sum, apart.Abs(apart))
		}
	}
	return times(rat(1, 2), sum)
}

// wantValid by the words, one error after another.
func wantValid(f Family) error {
	if len(f.L) > 64 || slices.ContainsFunc(f.L, func(row []int) bool { return len(row) > 16 }) || f.M < 1 || f.M > 16 {
		return api.ErrBound
	}
	if len(f.L) == 0 {
		return api.ErrShape
	}
	for _, row := range f.L {
		if len(row) == 0 || len(row) != len(f.L[0]) || slices.Min(row) < 0 || slices.Max(row) >= f.M {
			return api.ErrShape
		}
	}
	return nil
}

// eachRow of n numbers from 0 to most.
func eachRow(n, most int, do func(row []int)) {
	row := make([]int, n)
	var from func(at int)
	from = func(at int) {
		if at == n {
			do(slices.Clone(row))
			return
		}
		for x := range most + 1 {
			row[at] = x
			from(at + 1)
		}
	}
	from(0)
}

// eachWeights of length n up to most, but those of nothing but 0.
func eachWeights(n, most int, do func(w []int)) {
	eachRow(n, most, func(row []int) {
		if sumOf(row) > 0 {
			do(row)
		}
	})
}

// eachFamily of so many rows, things and values.
func eachFamily(rows, things, m int, do func(f Family)) {
	eachRow(rows*things, m-1, func(row []int) {
		do(Family{M: m, L: slices.Collect(slices.Chunk(row, things))})
	})
}

// someWeights: n of them, whose sum is about all; some are 0, one is above 0.
func someWeights(r *rand.Rand, n, all int) []int {
	w := make([]int, n)
	sharp := []float64{0.3, 1, 4}[r.Intn(3)]
	for i := range w {
		if r.Intn(5) > 0 {
			w[i] = int(float64(all) / float64(n) * math.Pow(r.Float64(), sharp))
		}
	}
	w[r.Intn(n)] += max(1, (all-sumOf(w))/(1+r.Intn(3)))
	return w
}

// someLists of weights: short and long, light and heavy.
func someLists(r *rand.Rand, count int) [][]int {
	out := [][]int{{1}, {4096}, {0, 4096, 0}, many(16, 1), many(16, 256), {4095, 1}, {2048, 2048}, {1, 0, 0, 0}}
	for range count {
		n := 1 + r.Intn(16)
		w := someWeights(r, n, 1+r.Intn([]int{6, 60, 1000, 4096}[r.Intn(4)]))
		out = append(out, w)
	}
	return out
}

// someFamily of so many rows and things at most; few values, so that things meet.
func someFamily(r *rand.Rand, rows, things int) Family {
	f := Family{M: 1 + r.Intn([]int{2, 4, 16}[r.Intn(3)])}
	n := 1 + r.Intn(things)
	for range 1 + r.Intn(rows) {
		row := make([]int, n)
		for i := range row {
			row[i] = r.Intn(f.M)
		}
		f.L = append(f.L, row)
	}
	return f
}

// about is the entropy of weights, nearly.
func about(w []int) float64 {
	out, all := 0.0, float64(sumOf(w))
	for _, x := range w {
		if x > 0 {
			out += float64(x) / all * math.Log2(all/float64(x))
		}
	}
	return out
}

// valueOf a logarithm, nearly.
func valueOf(a api.Log) float64 {
	out := 0.0
	for _, x := range a.L {
		out += float64(x.Coef) / float64(a.Den) * math.Log2(float64(x.Prime))
	}
	return out
}
