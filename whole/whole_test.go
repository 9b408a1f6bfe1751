package whole

import (
	"math"
	"math/big"
	"math/rand"
	"slices"
	"strings"
	"testing"

	"demon/api"
)

func TestSmall(t *testing.T) {
	for a := -40; a <= 40; a++ {
		for b := -40; b <= 40; b++ {
			want := int(new(big.Int).GCD(nil, nil, big.NewInt(int64(Size(a))), big.NewInt(int64(Size(b)))).Int64())
			if got := GCD(a, b); got != want {
				t.Errorf("GCD(%d, %d) = %d, want %d", a, b, got, want)
			}
			if b < 1 {
				continue
			}
			if q := Floor(a, b); q*b > a || (q+1)*b <= a {
				t.Errorf("Floor(%d, %d) = %d", a, b, q)
			}
			r := big.NewRat(int64(a), int64(b))
			if f := Lowest(a, b); int64(f.Num) != r.Num().Int64() || int64(f.Den) != r.Denom().Int64() {
				t.Errorf("Lowest(%d, %d) = %v", a, b, f)
			}
		}
	}
}

func TestTotal(t *testing.T) {
	if Total(nil) != 0 || Total([]int{4}) != 4 || Total([]int{4, -1, 7}) != 10 {
		t.Error(Total(nil), Total([]int{4}), Total([]int{4, -1, 7}))
	}
}

func TestIsLowest(t *testing.T) {
	for num := -9; num <= 9; num++ {
		for den := -9; den <= 9; den++ {
			want := false
			if den > 0 {
				r := big.NewRat(int64(num), int64(den))
				want = max(num, -num) <= 7 && den <= 7 && r.Num().Int64() == int64(num) && r.Denom().Int64() == int64(den)
			}
			if got := IsLowest(api.Frac{Num: num, Den: den}, 7); got != want {
				t.Errorf("IsLowest(%d over %d) = %v", num, den, got)
			}
		}
	}
	for _, n := range []int{math.MinInt, math.MinInt + 1, math.MaxInt} {
		for _, f := range []api.Frac{{Num: n, Den: 1}, {Num: 1, Den: n}, {Num: n, Den: n}, {Num: n, Den: -1}, {Num: n}} {
			if IsLowest(f, 1000) {
				t.Error(f)
			}
		}
	}
}

func TestPrime(t *testing.T) {
	for n := -5; n < 3000; n++ {
		if got, want := Prime(n), n > 0 && big.NewInt(int64(n)).ProbablyPrime(20); got != want {
			t.Errorf("Prime(%d) = %v", n, got)
		}
	}
	for _, n := range []int{997 * 997, 991 * 997, 999999, 1000000} {
		if Prime(n) {
			t.Errorf("Prime(%d)", n)
		}
	}
	if !Prime(999983) {
		t.Error("999983 is a prime")
	}
}

func toBig(a Nat) *big.Int {
	out := new(big.Int)
	for i := len(a) - 1; i >= 0; i-- {
		out.Lsh(out, 64)
		out.Or(out, new(big.Int).SetUint64(a[i]))
	}
	return out
}

func someNats() []Nat {
	r := rand.New(rand.NewSource(1))
	out := []Nat{NatOf(0), NatOf(1), NatOf(2), NatOf(1<<63 - 1), NatOf(1 << 63), NatOf(1<<64 - 1), {0, 1}, {1<<64 - 1, 1<<64 - 1}, {0, 0, 1 << 63}}
	for range 20 {
		a := NatOf(1)
		for range r.Intn(12) {
			a = a.Times(r.Uint64() | 1)
		}
		out = append(out, a)
	}
	return out
}

func TestNatOfBits(t *testing.T) {
	checkNat(t, "nothing", NatOfBits(""), new(big.Int))
	for _, a := range someNats() {
		x := toBig(a)
		for _, ahead := range []string{"", "0", strings.Repeat("0", 200)} {
			checkNat(t, "bits", NatOfBits(ahead+x.Text(2)), x)
		}
	}
}

func TestNat(t *testing.T) {
	for _, a := range someNats() {
		x := toBig(a)
		if len(a) > 0 && a[len(a)-1] == 0 {
			t.Errorf("%v: highest word is 0", a)
		}
		if a.Bits() != x.BitLen() {
			t.Errorf("%v: Bits %d, want %d", x, a.Bits(), x.BitLen())
		}
		for _, word := range []uint64{0, 1, 3, 1 << 32, 1<<64 - 1} {
			want := new(big.Int).Mul(x, new(big.Int).SetUint64(word))
			if got := a.Times(word); toBig(got).Cmp(want) != 0 || got.Bits() != want.BitLen() {
				t.Errorf("%v times %d: %v", x, word, toBig(got))
			}
		}
		for _, by := range []int{0, 1, 63, 64, 65, 200} {
			want := new(big.Int).Lsh(x, uint(by))
			if got := a.Shift(by); toBig(got).Cmp(want) != 0 || got.Bits() != want.BitLen() {
				t.Errorf("%v shifted by %d: %v", x, by, toBig(got))
			}
		}
		for _, power := range []int{0, 1, 2, 40, 41, 777} {
			for _, word := range []uint64{0, 1, 3, 999983, 1<<64 - 1} {
				want := new(big.Int).Exp(new(big.Int).SetUint64(word), big.NewInt(int64(power)), nil)
				if got := toBig(a.TimesPower(word, power)); got.Cmp(want.Mul(want, x)) != 0 {
					t.Errorf("%v times %d to the power of %d: %v", x, word, power, got)
				}
			}
		}
	}
}

func TestTwoNats(t *testing.T) {
	for _, a := range someNats() {
		for _, b := range someNats() {
			x, y := toBig(a), toBig(b)
			if got := a.Cmp(b); got != x.Cmp(y) {
				t.Errorf("%v Cmp %v: %d", x, y, got)
			}
			if len(a) == 0 || len(b) == 0 {
				continue
			}
			k := FloorLog(a, b)
			if !atMost(k, x, y) || atMost(k+1, x, y) {
				t.Errorf("FloorLog of %v over %v: %d", x, y, k)
			}
		}
	}
}

func checkNat(t *testing.T, name string, got Nat, want *big.Int) {
	t.Helper()
	if toBig(got).Cmp(want) != 0 || got.Bits() != want.BitLen() || len(got) > 0 && got[len(got)-1] == 0 {
		t.Errorf("%s: %v, want %v", name, got, want)
	}
}

func TestReckoning(t *testing.T) {
	for _, a := range someNats() {
		for _, b := range someNats() {
			x, y := toBig(a), toBig(b)
			checkNat(t, "Plus", a.Plus(b), new(big.Int).Add(x, y))
			checkNat(t, "By", a.By(b), new(big.Int).Mul(x, y))
			if x.Cmp(y) >= 0 {
				checkNat(t, "Minus", a.Minus(b), new(big.Int).Sub(x, y))
			}
			if toBig(a).Cmp(x) != 0 || toBig(b).Cmp(y) != 0 {
				t.Error("changed:", x, y)
			}
		}
	}
}

func TestOver(t *testing.T) {
	for _, a := range someNats() {
		for _, b := range someNats() {
			if len(b) == 0 {
				continue
			}
			q, r := new(big.Int).QuoRem(toBig(a), toBig(b), new(big.Int))
			times, rest, fits := a.Over(b)
			if a.Bits()-b.Bits() > 63 {
				if fits || times != 0 || rest != nil {
					t.Error(a, b, times, rest, fits)
				}
				continue
			}
			if !fits || q.Cmp(new(big.Int).SetUint64(times)) != 0 {
				t.Error(a, b, times, fits)
			}
			checkNat(t, "rest", rest, r)
		}
	}
}

// checkTold: num over den, both times a number, are told as math/big has them.
func checkTold(t *testing.T, num, den, times Nat) {
	t.Helper()
	want := new(big.Rat).SetFrac(toBig(num), toBig(den))
	most := big.NewInt(api.MaxTold)
	f, err := Told(num.By(times), den.By(times))
	if want.Num().Cmp(most) > 0 || want.Denom().Cmp(most) > 0 {
		if err != api.ErrBound || f != (api.Frac{}) {
			t.Error(want, f, err)
		}
		return
	}
	if err != nil || int64(f.Num) != want.Num().Int64() || int64(f.Den) != want.Denom().Int64() {
		t.Error(want, f, err)
	}
}

func TestTold(t *testing.T) {
	const most = api.MaxTold
	words := []uint64{0, 1, 2, 3, 1000, 4096, most/2 - 1, most / 2, most - 2, most - 1, most, most + 1, most + 2, 2*most - 1, 2 * most, 3 * most, 1<<64 - 1,
		7540113804746346429, 4660046610375530309, 2880067194370816120, 1779979416004714189} // the last four: Fibonacci's, which take most steps
	r := rand.New(rand.NewSource(2))
	for range 40 {
		words = append(words, r.Uint64()>>r.Intn(40))
	}
	for _, n := range words {
		for _, d := range words[1:] {
			for _, times := range []Nat{NatOf(1), NatOf(6), NatOf(1<<64 - 1), someNats()[12]} {
				checkTold(t, NatOf(n), NatOf(d), times)
			}
		}
	}
	for _, a := range someNats() {
		for _, b := range someNats() {
			if len(b) > 0 {
				checkTold(t, a, b, NatOf(1))
			}
		}
	}
}

func TestToldAll(t *testing.T) {
	for _, x := range []struct {
		nums []uint64
		den  uint64
		want []api.Frac
		err  error
	}{
		{nil, 7, nil, nil},
		{[]uint64{0, 3, 4, 12}, 6, []api.Frac{{Den: 1}, {Num: 1, Den: 2}, {Num: 2, Den: 3}, {Num: 2, Den: 1}}, nil},
		{[]uint64{api.MaxTold, 1}, 1, []api.Frac{{Num: api.MaxTold, Den: 1}, {Num: 1, Den: 1}}, nil},
		// Only one of them is too great.
		{[]uint64{1, 2, api.MaxTold + 1}, 1, nil, api.ErrBound},
		{[]uint64{api.MaxTold + 1, 1, 2}, 1, nil, api.ErrBound},
		{[]uint64{0, 3, 2 * (api.MaxTold + 1)}, 2 * (api.MaxTold + 1), nil, api.ErrBound},
	} {
		var nums []Nat
		for _, n := range x.nums {
			nums = append(nums, NatOf(n))
		}
		if got, err := ToldAll(nums, NatOf(x.den)); !slices.Equal(got, x.want) || err != x.err {
			t.Error(x, got, err)
		}
	}
}

// checkSum: as math/big has it; tells whether it is not too great.
func checkSum(t *testing.T, l []api.Frac) bool {
	t.Helper()
	want, most := new(big.Rat), big.NewInt(api.MaxTold)
	for _, f := range l {
		want.Add(want, big.NewRat(int64(f.Num), int64(f.Den)))
	}
	f, err := Sum(l)
	if want.Num().CmpAbs(most) > 0 || want.Denom().Cmp(most) > 0 {
		if err != api.ErrBound || f != (api.Frac{}) {
			t.Error(l, f, err)
		}
		return false
	}
	if err != nil || int64(f.Num) != want.Num().Int64() || int64(f.Den) != want.Denom().Int64() {
		t.Error(l, f, want, err)
	}
	return true
}

func TestSum(t *testing.T) {
	const most = api.MaxTold
	for _, x := range []struct {
		l   []api.Frac
		fit bool
	}{
		{nil, true},
		{[]api.Frac{{Num: 0, Den: 7}}, true},
		{[]api.Frac{{Num: -6, Den: 4}}, true},
		{[]api.Frac{{Num: 1, Den: 3}, {Num: -1, Den: 3}}, true},
		{[]api.Frac{{Num: -1, Den: 2}, {Num: 1, Den: 3}, {Num: 1, Den: 6}}, true},
		{[]api.Frac{{Num: most - 1, Den: 1}, {Num: 1, Den: 1}}, true},
		{[]api.Frac{{Num: most, Den: 1}, {Num: 1, Den: 1}}, false},
		{[]api.Frac{{Num: 1 - most, Den: 1}, {Num: -1, Den: 1}}, true},
		{[]api.Frac{{Num: -most, Den: 1}, {Num: -1, Den: 1}}, false},
		{[]api.Frac{{Num: 1, Den: most}, {Num: -1, Den: 1}}, true},
		{[]api.Frac{{Num: -1, Den: most}, {Num: -1, Den: 1}}, false},
		{[]api.Frac{{Num: 1, Den: most + 1}}, false},
		{[]api.Frac{{Num: math.MinInt, Den: 1}}, false},
		{[]api.Frac{{Num: math.MinInt, Den: 2}}, true},
		{[]api.Frac{{Num: math.MinInt, Den: 1}, {Num: math.MaxInt, Den: 1}}, true},
		{[]api.Frac{{Num: math.MaxInt, Den: math.MaxInt}, {Num: math.MinInt, Den: math.MaxInt}}, false},
	} {
		if checkSum(t, x.l) != x.fit {
			t.Error(x)
		}
	}
	r := rand.New(rand.NewSource(3))
	for range 5000 {
		l := make([]api.Frac, r.Intn(9))
		for i := range l {
			l[i] = api.Frac{Num: int(r.Uint64()) >> r.Intn(64), Den: 1 + r.Intn(1<<r.Intn(20))}
		}
		checkSum(t, l)
	}
}

// atMost: is 2 to the power of k at most x over y?
func atMost(k int, x, y *big.Int) bool {
	left := new(big.Int).Lsh(y, uint(max(0, k)))
	right := new(big.Int).Lsh(x, uint(max(0, -k)))
	return left.Cmp(right) <= 0
}
