package lempel

// P64

import (
	"math/big"
	"math/rand"
	"strings"
	"testing"

	"demon/api"
)

// checkBack: what is parsed, or slid, comes back.
func checkBack(t *testing.T, s string, windows ...int) {
	t.Helper()
	l, err := Parse(s)
	if back, worse := Text(l); back != s || err != nil || worse != nil {
		t.Errorf("%q: %v %q %v %v", s, l, back, err, worse)
	}
	for _, w := range windows {
		l, err := Slide(s, w)
		if back, worse := Unslide(l); back != s || err != nil || worse != nil {
			t.Errorf("%q %d: %v %q %v %v", s, w, l, back, err, worse)
		}
	}
}

func TestBack(t *testing.T) {
	for n := range 12 {
		for _, s := range allTexts("a\x00", n) {
			checkBack(t, s, 1, 2, 3, 5, api.MaxText)
		}
	}
	for n := range 7 {
		for _, s := range allTexts("ab\xff\x00", n) {
			checkBack(t, s, 1, 2, 3, 5, api.MaxText)
		}
	}
}

func TestSomeBack(t *testing.T) {
	r := rand.New(rand.NewSource(67))
	for range 2000 {
		checkBack(t, someText(r, r.Intn(200), 1+r.Intn(256), byte(r.Intn(256))), 1, 1+r.Intn(100), api.MaxText)
	}
	for _, kinds := range []int{1, 2, 3, 16, 256} {
		for _, n := range []int{api.MaxText - 1, api.MaxText} {
			checkBack(t, someText(r, n, kinds, byte(r.Intn(256))), 1, 60, api.MaxText)
		}
	}
	checkBack(t, strings.Repeat("ab", api.MaxText/2), 1, 2, 3, api.MaxText)
	checkBack(t, strings.Repeat("x", api.MaxText-1)+"y", 1, 2, 3, api.MaxText)
}

// The chances of all texts of n bits together are 1.
func TestTogether(t *testing.T) {
	for n := range 12 {
		var sums [api.MaxDepth + 2]big.Rat
		for _, bits := range allTexts("01", n) {
			f, err := Chance(bits)
			if err != nil {
				t.Error(bits, err)
				continue
			}
			sums[0].Add(&sums[0], ratOf(f))
			for d := range api.MaxDepth + 1 {
				f, err := Weighted(bits, d)
				if err != nil {
					t.Error(bits, d, err)
					continue
				}
				sums[d+1].Add(&sums[d+1], ratOf(f))
			}
		}
		for k := range sums {
			if sums[k].Cmp(rat(1, 1)) != 0 {
				t.Error(n, k, sums[k].String())
			}
		}
	}
}

// Of more bits: those of so many 0 and so many 1 are as likely, one and all.
func TestTogetherByCounts(t *testing.T) {
	for n := range api.MaxBits + 1 {
		sum := new(big.Rat)
		for a := range n + 1 {
			f, err := Chance(ones(n-a) + zeros(a))
			if err != nil {
				t.Error(n, a, err)
				continue
			}
			rows := new(big.Rat).SetInt(new(big.Int).Binomial(int64(n), int64(a)))
			sum.Add(sum, rows.Mul(rows, ratOf(f)))
		}
		if sum.Cmp(rat(1, 1)) != 0 {
			t.Error(n, sum)
		}
	}
}

// Of more bits, by Weighted: one bit more shares out what the bits ahead of it have; with that, from the empty text on, all of them together have 1.
func TestSharedOut(t *testing.T) {
	r := rand.New(rand.NewSource(68))
	for range 2000 {
		bits, d := someBits(r, r.Intn(api.MaxBits)), r.Intn(api.MaxDepth+1)
		all, err := Weighted(bits, d)
		a, errA := Weighted(bits+"0", d)
		b, errB := Weighted(bits+"1", d)
		if err != nil || errA != nil || errB != nil {
			t.Error(bits, d, err, errA, errB)
			continue
		}
		if sum := new(big.Rat).Add(ratOf(a), ratOf(b)); sum.Cmp(ratOf(all)) != 0 || a.Num < 1 || b.Num < 1 {
			t.Error(bits, d, all, a, b)
		}
	}
}

// power of a number; that of 0 by 0 is 1.
func power(a, by int) *big.Int {
	return new(big.Int).Exp(big.NewInt(int64(a)), big.NewInt(int64(by)), nil)
}

// At least 1 over (2 times the root of a + b) times the greatest chance that a source without memory gives: both sides squared.
func TestAtLeast(t *testing.T) {
	for n := 1; n <= api.MaxBits; n++ {
		for a := range n + 1 {
			b := n - a
			f, err := Chance(zeros(a) + ones(b))
			if err != nil {
				t.Error(a, b, err)
				continue
			}
			left := new(big.Rat).Mul(ratOf(f), ratOf(f))
			right := new(big.Rat).SetFrac(power(a, 2*a), power(n, 2*a))
			right.Mul(right, new(big.Rat).SetFrac(power(b, 2*b), power(n, 2*b)))
			right.Mul(right, rat(1, 4*n))
			if left.Cmp(right) < 0 {
				t.Error(a, b, f, right)
			}
		}
	}
}
