package types

// What the tests hold the package against: rows one by one, where there are few; else factorials and powers of math/big, and the logarithms of chapters 1 and 2.

import (
	"math/big"
	"math/rand"
	"slices"
	"testing"

	"demon/api"
	"demon/dist"
	"demon/logs"
)

// isFault: an *api.Fault itself, with this place and ErrShape bare.
func isFault(err error, at int) bool {
	f, ok := err.(*api.Fault)
	return ok && f.At == at && f.Err == api.ErrShape
}

func rat(a, b int) *big.Rat { return big.NewRat(int64(a), int64(b)) }

// ratOf a fraction.
func ratOf(f api.Frac) *big.Rat { return rat(f.Num, f.Den) }

// isRat: is a fraction this number, in its lowest terms?
func isRat(f api.Frac, r *big.Rat) bool {
	return r.Num().IsInt64() && r.Denom().IsInt64() && int64(f.Num) == r.Num().Int64() && int64(f.Den) == r.Denom().Int64()
}

// tooGreat: is one of its numbers above MaxTold?
func tooGreat(r *big.Rat) bool {
	most := big.NewInt(api.MaxTold)
	return r.Num().Cmp(most) > 0 || r.Denom().Cmp(most) > 0
}

// power of a number; that of 0 by 0 is 1.
func power(a, by int) *big.Int {
	return new(big.Int).Exp(big.NewInt(int64(a)), big.NewInt(int64(by)), nil)
}

func sumOf(w []int) int {
	n := 0
	for _, x := range w {
		n += x
	}
	return n
}

// many are n of one number.
func many(n, x int) []int { return slices.Repeat([]int{x}, n) }

// allRows of n symbols out of k.
func allRows(n, k int) [][]int {
	out := [][]int{{}}
	for range n {
		var longer [][]int
		for _, row := range out {
			for x := range k {
				longer = append(longer, append(slices.Clone(row), x))
			}
		}
		out = longer
	}
	return out
}

// typeOf a row of symbols out of k.
func typeOf(row []int, k int) []int {
	t := make([]int, k)
	for _, x := range row {
		t[x]++
	}
	return t
}

// typesOf rows, each once, sorted.
func typesOf(rows [][]int, k int) [][]int {
	var out [][]int
	for _, row := range rows {
		out = append(out, typeOf(row, k))
	}
	slices.SortFunc(out, slices.Compare)
	return slices.CompactFunc(out, slices.Equal)
}

// following type in the order; false: it is the last one. What is behind the place that grows, less one, goes to the end.
func following(t []int) bool {
	at := len(t) - 2
	for at >= 0 && sumOf(t[at+1:]) == 0 {
		at--
	}
	if at < 0 {
		return false
	}
	left := sumOf(t[at+1:]) - 1
	t[at]++
	clear(t[at+1:])
	t[len(t)-1] = left
	return true
}

// eachType of n symbols out of k, also where there are more than All tells.
func eachType(n, k int, tell func(t []int)) {
	t := make([]int, k)
	t[k-1] = n
	for more := true; more; more = following(t) {
		tell(t)
	}
}

func factorial(n int) *big.Int { return new(big.Int).MulRange(1, int64(n)) }

// wantSize by factorials.
func wantSize(t []int) *big.Int {
	out := factorial(sumOf(t))
	for _, x := range t {
		out.Quo(out, factorial(x))
	}
	return out
}

// wantChance: that of one row, as often as there are rows.
func wantChance(t, q []int) *big.Rat {
	out := new(big.Rat).SetInt(wantSize(t))
	for i, x := range t {
		for range x {
			out.Mul(out, rat(q[i], sumOf(q)))
		}
	}
	return out
}

// chanceOfRow: symbol by symbol.
func chanceOfRow(row, q []int) *big.Rat {
	out := rat(1, 1)
	for _, x := range row {
		out.Mul(out, rat(q[x], sumOf(q)))
	}
	return out
}

// wantNearest by the divergences of chapter 2, whose differences have a sign.
func wantNearest(t *testing.T, q []int, set [][]int) int {
	t.Helper()
	nearest, least := -1, api.Log{}
	for i, p := range set {
		d, err := dist.Divergence(p, q)
		if err == api.ErrZero {
			continue
		}
		if err != nil {
			t.Fatal(p, q, err)
		}
		if nearest < 0 || isBelow(t, d, least) {
			nearest, least = i, d
		}
	}
	return nearest
}

func isBelow(t *testing.T, a, b api.Log) bool {
	t.Helper()
	less, err := logs.Scale(b, api.Frac{Num: -1, Den: 1})
	if err != nil {
		t.Fatal(b, err)
	}
	d, err := logs.Add(a, less)
	if err != nil {
		t.Fatal(a, less, err)
	}
	sign, err := logs.Sign(d)
	if err != nil {
		t.Fatal(d, err)
	}
	return sign < 0
}

// raised is 2 to the power of n times a logarithm, where that is a fraction.
func raised(t *testing.T, a api.Log, n int) *big.Rat {
	t.Helper()
	b, err := logs.Scale(a, api.Frac{Num: n, Den: 1})
	if err != nil || b.Den != 1 {
		t.Fatal(a, n, b, err)
	}
	above, below := big.NewInt(1), big.NewInt(1)
	for _, x := range b.L {
		if x.Coef > 0 {
			above.Mul(above, power(x.Prime, x.Coef))
		} else {
			below.Mul(below, power(x.Prime, -x.Coef))
		}
	}
	return new(big.Rat).SetFrac(above, below)
}

// someType of n symbols out of k.
func someType(r *rand.Rand, n, k int) []int {
	t, kinds := make([]int, k), 1+r.Intn(k)
	for range n {
		t[r.Intn(kinds)]++
	}
	r.Shuffle(k, func(i, j int) { t[i], t[j] = t[j], t[i] })
	return t
}

// someWeights are k of them, not all 0; some are 0.
func someWeights(r *rand.Rand, k, most int) []int {
	w := make([]int, k)
	for i := range w {
		if r.Intn(5) > 0 {
			w[i] = r.Intn(most + 1)
		}
	}
	w[r.Intn(k)] = 1 + r.Intn(most)
	return w
}

// someSet of types, none of them twice.
func someSet(r *rand.Rand, n, k, most int) [][]int {
	var out [][]int
	for range r.Intn(most + 1) {
		t := someType(r, n, k)
		if !slices.ContainsFunc(out, func(s []int) bool { return slices.Equal(s, t) }) {
			out = append(out, t)
		}
	}
	return out
}

func TestOracles(t *testing.T) {
	for n := range 6 {
		for k := 1; k <= 4; k++ {
			var got [][]int
			eachType(n, k, func(p []int) { got = append(got, slices.Clone(p)) })
			if want := typesOf(allRows(n, k), k); !slices.EqualFunc(got, want, slices.Equal) {
				t.Error(n, k, got, want)
			}
		}
	}
	if got := raised(t, api.Log{Den: 6, L: []api.Term{{Prime: 2, Coef: -1}, {Prime: 3, Coef: 2}}}, 12); got.Cmp(rat(81, 4)) != 0 {
		t.Error(got)
	}
	if wantSize([]int{2, 1, 0, 2}).Int64() != 30 || wantChance([]int{0, 2}, []int{1, 2}).Cmp(rat(4, 9)) != 0 {
		t.Error(wantSize([]int{2, 1, 0, 2}), wantChance([]int{0, 2}, []int{1, 2}))
	}
}
