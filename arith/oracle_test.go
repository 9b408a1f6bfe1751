package arith

// What the tests hold the package against, in fractions of math/big or by trying all.

import (
	"fmt"
	"math/big"
	"math/rand"
	"slices"
	"strings"
	"testing"

	"demon/api"
)

func many(n, x int) []int { return slices.Repeat([]int{x}, n) }

// with is w with x at the place i.
func with(w []int, i, x int) []int {
	out := slices.Clone(w)
	out[i] = x
	return out
}

func zeros(n int) string { return strings.Repeat("0", n) }

func ones(n int) string { return strings.Repeat("1", n) }

func rat(a, b int) *big.Rat { return big.NewRat(int64(a), int64(b)) }

func sumOf(l []int) int {
	sum := 0
	for _, x := range l {
		sum += x
	}
	return sum
}

// wantSpan is where a message's interval begins and ends.
func wantSpan(w, l []int) (low, high *big.Rat) {
	low, high = rat(0, 1), rat(1, 1)
	for _, s := range l {
		width := new(big.Rat).Sub(high, low)
		place := func(weights []int) *big.Rat {
			part := rat(sumOf(weights), sumOf(w))
			return part.Add(part.Mul(part, width), low)
		}
		low, high = place(w[:s]), place(w[:s+1])
	}
	return low, high
}

// dyadic is 0.b1b2.. and one more in its last place.
func dyadic(text string) (low, high *big.Rat) {
	low, part := new(big.Rat), rat(1, 1)
	for _, b := range text {
		part.Mul(part, rat(1, 2))
		if b == '1' {
			low.Add(low, part)
		}
	}
	return low, new(big.Rat).Add(low, part)
}

// within: do all numbers of a text lie in the interval?
func within(text string, low, high *big.Rat) bool {
	from, to := dyadic(text)
	return from.Cmp(low) >= 0 && to.Cmp(high) <= 0
}

// firstText goes through all texts, the short ones first, those of one length rising.
func firstText(low, high *big.Rat) string {
	for n := 0; ; n++ {
		for m := range 1 << n {
			text := fmt.Sprintf("%0*b", n, m)[:n]
			if within(text, low, high) {
				return text
			}
		}
	}
}

// wantText is firstText of spans that are narrow: of each length the first text that does not begin below low is looked at.
func wantText(low, high *big.Rat) string {
	for n := 0; ; n++ {
		power := new(big.Int).Lsh(big.NewInt(1), uint(n))
		m := new(big.Int).Mul(low.Num(), power)
		m.Add(m, new(big.Int).Sub(low.Denom(), big.NewInt(1)))
		m.Quo(m, low.Denom())
		end := new(big.Rat).SetFrac(new(big.Int).Add(m, big.NewInt(1)), power)
		if end.Cmp(high) <= 0 {
			return fmt.Sprintf("%0*b", n, m)[:n]
		}
	}
}

// allLists of so many numbers from 0 to most, rising in order.
func allLists(n, most int) [][]int {
	out := [][]int{nil}
	for range n {
		var longer [][]int
		for _, l := range out {
			for x := range most + 1 {
				longer = append(longer, append(slices.Clone(l), x))
			}
		}
		out = longer
	}
	return out
}

// smallWeights: all lists of up to three weights, at most so great.
func smallWeights(most int) [][]int {
	var out [][]int
	for n := 1; n <= 3; n++ {
		out = append(out, allLists(n, most)[1:]...)
	}
	return out
}

// messages of n symbols whose weights are not 0.
func messages(w []int, n int) [][]int {
	return slices.DeleteFunc(allLists(n, len(w)-1), func(l []int) bool {
		return slices.ContainsFunc(l, func(s int) bool { return w[s] == 0 })
	})
}

// someWeights whose sum is at most MaxWeight, some of them 0.
func someWeights(r *rand.Rand) []int {
	w := make([]int, 1+r.Intn(api.MaxSize))
	most := 1 << r.Intn(9)
	for i := range w {
		w[i] = r.Intn(most + 1)
	}
	at := r.Intn(len(w))
	w[at] = 1
	if r.Intn(2) == 0 {
		w[at] += r.Intn(api.MaxWeight - sumOf(w) + 1)
	}
	return w
}

// someMessage of n symbols, drawn by their weights, or each as often.
func someMessage(r *rand.Rand, w []int, n int) []int {
	var from []int
	even := r.Intn(2) == 0
	for s, x := range w {
		if even {
			x = min(x, 1)
		}
		from = append(from, many(x, s)...)
	}
	l := make([]int, n)
	for i := range l {
		l[i] = from[r.Intn(len(from))]
	}
	return l
}

func someBits(r *rand.Rand, n int) string {
	b := make([]byte, n)
	for i := range b {
		b[i] = byte('0' + r.Intn(2))
	}
	return string(b)
}

// isFault: an *api.Fault itself, with this place and this bare error.
func isFault(err error, at int, want error) bool {
	f, ok := err.(*api.Fault)
	return ok && f.At == at && f.Err == want
}

func TestOracles(t *testing.T) {
	third, two := rat(1, 3), rat(2, 3)
	if a, b := firstText(third, two), wantText(third, two); a != "011" || b != "011" {
		t.Error(a, b)
	}
	if a, b := firstText(rat(0, 1), rat(1, 1)), wantText(rat(0, 1), rat(1, 1)); a != "" || b != "" {
		t.Error(a, b)
	}
	low, high := wantSpan([]int{1, 2, 1}, []int{1, 2})
	if low.Cmp(rat(5, 8)) != 0 || high.Cmp(rat(3, 4)) != 0 {
		t.Error(low, high)
	}
	if got := fmt.Sprint(messages([]int{1, 0, 2}, 2)); got != "[[0 0] [0 2] [2 0] [2 2]]" {
		t.Error(got)
	}
	if len(smallWeights(2)) != 2+8+26 {
		t.Error(smallWeights(2))
	}
}
