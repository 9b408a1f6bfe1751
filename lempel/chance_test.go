package lempel

// P62 and P63

import (
	"fmt"
	"math"
	"math/big"
	"math/rand"
	"strings"
	"testing"

	"demon/api"
	"demon/whole"
)

func zeros(n int) string { return strings.Repeat("0", n) }

func ones(n int) string { return strings.Repeat("1", n) }

func TestChance(t *testing.T) {
	for bits, want := range map[string]string{
		"":        "{1 1}",
		"0":       "{1 2}",
		"1":       "{1 2}",
		"00":      "{3 8}",
		"01":      "{1 8}",
		"10":      "{1 8}",
		"11":      "{3 8}",
		"000":     "{5 16}",
		"010":     "{1 16}",
		"011":     "{1 16}",
		"0011":    "{3 128}",
		"0110":    "{3 128}",
		zeros(24): "{8061900920775 70368744177664}", // 48 over 24, over 4 to the power of 24
		ones(24):  "{8061900920775 70368744177664}",
	} {
		f, err := Chance(bits)
		if got := fmt.Sprint(f); got != want || err != nil {
			t.Error(bits, got, err)
		}
	}
}

func checkChance(t *testing.T, bits string) {
	t.Helper()
	if f, err := Chance(bits); err != nil || !isRat(f, wantChance(bits)) {
		t.Error(bits, f, err)
	}
}

func TestAllChances(t *testing.T) {
	for n := range 13 {
		for _, bits := range allTexts("01", n) {
			checkChance(t, bits)
		}
	}
}

func TestSomeChances(t *testing.T) {
	r := rand.New(rand.NewSource(64))
	for range 2000 {
		checkChance(t, someBits(r, r.Intn(api.MaxBits+1)))
	}
}

// Of a row its bits' order makes no difference: so these are all chances that there are, and none of them is too great to be told.
func TestChancesByCounts(t *testing.T) {
	for n := range api.MaxBits + 1 {
		for a := range n + 1 {
			row := []byte(zeros(a) + ones(n-a))
			want := closedChance(a, n-a)
			r := rand.New(rand.NewSource(int64(100*n + a)))
			for range 4 {
				if f, err := Chance(string(row)); err != nil || !isRat(f, want) {
					t.Error(string(row), f, err)
				}
				r.Shuffle(n, func(i, k int) { row[i], row[k] = row[k], row[i] })
			}
		}
	}
}

// closedChance of a bits 0 and b bits 1: 2a over a, times 2b over b, over (a and b) over a, over 4 to the power of both.
func closedChance(a, b int) *big.Rat {
	choose := func(n, k int) *big.Int { return new(big.Int).Binomial(int64(n), int64(k)) }
	num := new(big.Int).Mul(choose(2*a, a), choose(2*b, b))
	den := new(big.Int).Lsh(choose(a+b, a), uint(2*(a+b)))
	return new(big.Rat).SetFrac(num, den)
}

func TestWeighted(t *testing.T) {
	for _, c := range []struct {
		bits string
		d    int
		want string
	}{
		{"", 0, "{1 1}"},
		{"", 4, "{1 1}"},
		{"01", 0, "{1 8}"},
		{"0011", 0, "{3 128}"},
		{"0", 1, "{1 2}"},
		{"1", 4, "{1 2}"},
		{"01", 1, "{1 8}"},     // both bits stand behind 0
		{"10", 1, "{3 16}"},    // half of 1/8 and 1/4: they stand apart
		{"11", 1, "{5 16}"},    // half of 3/8 and 1/4
		{"0110", 1, "{5 256}"}, // half of 3/128 and 1/64
		{"10", 2, "{3 16}"},
		{"010101", 2, "{43 4096}"},
	} {
		f, err := Weighted(c.bits, c.d)
		if got := fmt.Sprint(f); got != c.want || err != nil {
			t.Error(c, got, err)
		}
	}
}

func checkWeighted(t *testing.T, bits string, d int) {
	t.Helper()
	if f, err := Weighted(bits, d); err != nil || !isRat(f, wantWeighted(bits, d)) {
		t.Error(bits, d, f, err)
	}
}

func TestAllWeighted(t *testing.T) {
	for d, most := range []int{11, 10, 9, 7, 3} {
		for n := range most + 1 {
			for _, bits := range allTexts("01", n) {
				checkWeighted(t, bits, d)
			}
		}
	}
}

func TestSomeWeighted(t *testing.T) {
	r := rand.New(rand.NewSource(65))
	for d, times := range []int{500, 500, 500, 200, 20} {
		for range times {
			checkWeighted(t, someBits(r, r.Intn(api.MaxBits+1)), d)
		}
		checkWeighted(t, zeros(api.MaxBits), d)
		checkWeighted(t, ones(api.MaxBits), d)
		checkWeighted(t, strings.Repeat("01", api.MaxBits/2), d)
		checkWeighted(t, "000010011010111100001001", d) // each context of 4 bits is there
	}
}

// Without contexts it is Chance.
func TestNoContexts(t *testing.T) {
	r := rand.New(rand.NewSource(66))
	for range 500 {
		bits := someBits(r, r.Intn(api.MaxBits+1))
		a, err := Chance(bits)
		b, worse := Weighted(bits, 0)
		if a != b || err != nil || worse != nil {
			t.Error(bits, a, b, err, worse)
		}
	}
}

// With these bounds every denominator is a power of 2, of Chance at most the 48th, of Weighted at most the 55th: so that a number is too great to be told is asked here, of what was not made by bits.
func TestTold(t *testing.T) {
	few, many := whole.NatOf(api.MaxTold), whole.NatOf(api.MaxTold+1)
	if f, err := (share{whole.NatOf(1), few}).told(); f != (api.Frac{Num: 1, Den: api.MaxTold}) || err != nil {
		t.Error(f, err)
	}
	if f, err := (share{whole.NatOf(1), many}).told(); f != (api.Frac{}) || err != api.ErrBound {
		t.Error(f, err)
	}
	if f, err := (share{many, many}).mean(share{few, few}).told(); f != (api.Frac{Num: 1, Den: 1}) || err != nil {
		t.Error(f, err)
	}
}

func TestChanceErrors(t *testing.T) {
	for _, c := range []struct {
		bits string
		err  error
	}{
		{zeros(24), nil},
		{zeros(25), api.ErrBound},
		{ones(25), api.ErrBound},
		{strings.Repeat("2", 25), api.ErrBound}, // ahead of the other byte
		{zeros(100000), api.ErrBound},
		{"2", api.ErrText},
		{"012", api.ErrText},
		{"201", api.ErrText},
		{"020", api.ErrText},
		{"0 1", api.ErrText},
		{"/", api.ErrText},
		{"01\n", api.ErrText},
		{"\x00", api.ErrText},
		{"\x01", api.ErrText},
		{"0\xff0", api.ErrText},
		{"é", api.ErrText},
		{"０", api.ErrText}, // a wide 0
		{zeros(23) + "x", api.ErrText},
		{zeros(24) + "x", api.ErrBound},
	} {
		if f, err := Chance(c.bits); err != c.err || err != nil && f != (api.Frac{}) {
			t.Errorf("%q: %v %v", c.bits, f, err)
		}
		for d := range api.MaxDepth + 1 {
			if f, err := Weighted(c.bits, d); err != c.err || err != nil && f != (api.Frac{}) {
				t.Errorf("%q %d: %v %v", c.bits, d, f, err)
			}
		}
		for _, d := range []int{-1, api.MaxDepth + 1, math.MinInt, math.MaxInt} {
			if f, err := Weighted(c.bits, d); err != api.ErrBound || f != (api.Frac{}) {
				t.Errorf("%q %d: %v %v", c.bits, d, f, err)
			}
		}
	}
}
