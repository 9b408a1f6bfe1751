package arith

// P50 to P52

import (
	"fmt"
	"math"
	"math/big"
	"math/rand"
	"slices"
	"strings"
	"testing"

	"demon/api"
	"demon/dist"
)

func TestInterval(t *testing.T) {
	for _, c := range []struct {
		w, l []int
		want string
	}{
		{[]int{1, 2, 1}, []int{1, 2}, "{5 8} {1 8}"},
		{[]int{1, 2, 1}, nil, "{0 1} {1 1}"},
		{[]int{1, 2, 1}, []int{}, "{0 1} {1 1}"},
		{[]int{1, 2, 1}, []int{0}, "{0 1} {1 4}"},
		{[]int{1, 2, 1}, []int{1}, "{1 4} {1 2}"},
		{[]int{1, 2, 1}, []int{2}, "{3 4} {1 4}"},
		{[]int{1, 2}, []int{1, 0}, "{1 3} {2 9}"},
		{[]int{1, 2}, []int{0, 1}, "{1 9} {2 9}"},
		{[]int{2, 4}, []int{0, 1}, "{1 9} {2 9}"},
		{[]int{5}, []int{0, 0, 0}, "{0 1} {1 1}"},
		{[]int{0, 5, 0}, many(200, 1), "{0 1} {1 1}"},
		{[]int{0, 3, 0, 1}, []int{3, 1}, "{3 4} {3 16}"},
		{[]int{api.MaxWeight - 1, 1}, []int{1, 1}, "{16777215 16777216} {1 16777216}"},
	} {
		low, width, err := Interval(c.w, c.l)
		if got := fmt.Sprint(low, width); got != c.want || err != nil {
			t.Error(c, got, err)
		}
	}
}

// isRat: is a fraction this number, in its lowest terms?
func isRat(f api.Frac, r *big.Rat) bool {
	return r.Num().IsInt64() && r.Denom().IsInt64() && int64(f.Num) == r.Num().Int64() && int64(f.Den) == r.Denom().Int64()
}

// isTold: are a fraction's numbers within MaxTold?
func isTold(r *big.Rat) bool {
	most := big.NewInt(api.MaxTold)
	return r.Num().Cmp(most) <= 0 && r.Denom().Cmp(most) <= 0
}

func checkInterval(t *testing.T, w, l []int) {
	t.Helper()
	from, to := wantSpan(w, l)
	wide := to.Sub(to, from)
	low, width, err := Interval(w, l)
	if !isTold(from) || !isTold(wide) {
		if err != api.ErrBound || low != (api.Frac{}) || width != (api.Frac{}) {
			t.Error(w, l, low, width, err)
		}
		return
	}
	if err != nil || !isRat(low, from) || !isRat(width, wide) {
		t.Error(w, l, low, width, err)
	}
}

func TestAllIntervals(t *testing.T) {
	for _, w := range smallWeights(4) {
		for n := range 5 {
			for _, l := range messages(w, n) {
				checkInterval(t, w, l)
			}
		}
	}
}

func TestSomeIntervals(t *testing.T) {
	r := rand.New(rand.NewSource(50))
	for k := range 2000 {
		w := someWeights(r)
		checkInterval(t, w, someMessage(r, w, r.Intn(30)))
		if k%20 == 0 {
			checkInterval(t, w, someMessage(r, w, r.Intn(api.MaxLetters+1)))
		}
	}
}

// What is told is up to MaxTold, in its lowest terms.
func TestToldBound(t *testing.T) {
	const most = api.MaxTold
	for _, c := range []struct {
		w, l       []int
		low, width api.Frac
		err        error
	}{
		{[]int{1, 1}, many(62, 0), api.Frac{Num: 0, Den: 1}, api.Frac{Num: 1, Den: most}, nil},
		{[]int{1, 1}, many(62, 1), api.Frac{Num: most - 1, Den: most}, api.Frac{Num: 1, Den: most}, nil},
		{[]int{2048, 2048}, many(62, 1), api.Frac{Num: most - 1, Den: most}, api.Frac{Num: 1, Den: most}, nil},
		{[]int{1, 1}, many(63, 0), api.Frac{}, api.Frac{}, api.ErrBound},
		{[]int{1, 1}, many(63, 1), api.Frac{}, api.Frac{}, api.ErrBound},
		{[]int{1, 1}, many(200, 0), api.Frac{}, api.Frac{}, api.ErrBound},
		{[]int{api.MaxWeight - 1, 1}, many(6, 0), api.Frac{}, api.Frac{}, api.ErrBound},
		// Of this one the width alone would be told: 1 over 3 to the power of 39; low's denominator is twice that.
		{[]int{1, 2, 3}, many(39, 1), api.Frac{}, api.Frac{}, api.ErrBound},
		{[]int{1, 2, 3}, many(38, 1), api.Frac{Num: 337712929418248022, Den: 1350851717672992089}, api.Frac{Num: 1, Den: 1350851717672992089}, nil},
	} {
		low, width, err := Interval(c.w, c.l)
		if low != c.low || width != c.width || err != c.err {
			t.Error(c, low, width, err)
		}
		checkInterval(t, c.w, c.l)
		if _, err := Encode(c.w, c.l); err != nil {
			t.Error("Encode has no such bound:", c, err)
		}
	}
}

// checkMessageError: neither Interval nor Encode answers anything but an error that is as wanted.
func checkMessageError(t *testing.T, w, l []int, want func(error) bool) {
	t.Helper()
	low, width, err := Interval(w, l)
	if !want(err) || low != (api.Frac{}) || width != (api.Frac{}) {
		t.Error(w, l, low, width, err)
	}
	text, err := Encode(w, l)
	if !want(err) || text != "" {
		t.Error(w, l, text, err)
	}
}

func badWeights() [][]int {
	return [][]int{nil, {}, {0}, {0, 0}, {-1}, {2, -1}, {math.MinInt, 1}, {api.MaxWeight + 1}, {api.MaxWeight, 1}, {math.MaxInt, math.MaxInt, 2}, many(17, 1), many(17, 0), many(17, -1), many(16, 0), many(16, 257)}
}

func TestMessageErrors(t *testing.T) {
	for _, w := range badWeights() {
		bad := dist.Valid(w)
		if bad == nil {
			t.Error(w)
		}
		for _, l := range [][]int{nil, {0}, {-1}, {5}, many(201, 0), many(201, -1)} {
			checkMessageError(t, w, l, func(err error) bool { return err == bad })
		}
	}
	for _, l := range [][]int{many(201, 1), many(201, 0), many(201, -1), with(many(201, 1), 0, 7), many(100000, 1)} {
		checkMessageError(t, []int{0, 1}, l, func(err error) bool { return err == api.ErrBound })
	}
	if low, width, err := Interval([]int{0, 1}, many(200, 1)); err != nil || low != (api.Frac{Num: 0, Den: 1}) || width != (api.Frac{Num: 1, Den: 1}) {
		t.Error(low, width, err)
	}
	if text, err := Encode([]int{1, 1}, many(200, 1)); err != nil || text != ones(200) {
		t.Error(text, err)
	}
}

func TestFaults(t *testing.T) {
	for _, c := range []struct {
		w, l []int
		at   int
		err  error
	}{
		{[]int{1, 1}, []int{2}, 0, api.ErrShape},
		{[]int{1, 1}, []int{-1}, 0, api.ErrShape},
		{[]int{1, 1}, []int{0, 1, 2, -1}, 2, api.ErrShape},
		{[]int{1, 1}, []int{0, -1, 2, 9}, 1, api.ErrShape},
		{[]int{1}, []int{0, math.MaxInt}, 1, api.ErrShape},
		{[]int{1}, []int{0, 0, math.MinInt}, 2, api.ErrShape},
		{many(16, 1), []int{15, 16}, 1, api.ErrShape},
		{[]int{1, 1}, with(many(200, 1), 199, 2), 199, api.ErrShape},
		{[]int{0, 1}, []int{0}, 0, api.ErrZero},
		{[]int{0, 1}, []int{1, 0, 0}, 1, api.ErrZero},
		{[]int{0, 1, 0}, []int{1, 1, 2, 0}, 2, api.ErrZero},
		{[]int{0, 1}, with(many(200, 1), 199, 0), 199, api.ErrZero},
		{[]int{0, 1}, []int{1, 0, 2}, 2, api.ErrShape},
		{[]int{0, 1}, []int{0, 1, -1, 0, 2}, 2, api.ErrShape},
		{[]int{0, 1}, []int{2, 0}, 0, api.ErrShape},
		{[]int{0, 1, 1}, with(many(200, 1), 199, 3), 199, api.ErrShape}, // ahead of what is too great to be told
		{[]int{0, 1, 1}, with(many(200, 1), 199, 0), 199, api.ErrZero},
	} {
		checkMessageError(t, c.w, c.l, func(err error) bool { return isFault(err, c.at, c.err) })
	}
}

func TestEncode(t *testing.T) {
	for _, c := range []struct {
		w, l []int
		want string
	}{
		{[]int{1, 2, 1}, []int{1, 2}, "101"},
		{[]int{1, 2}, []int{0}, "00"},
		{[]int{1, 2}, []int{1}, "1"},
		{[]int{1, 2}, []int{1, 1, 1}, "11"},
		{[]int{1, 2}, nil, ""},
		{[]int{1, 2}, []int{}, ""},
		{[]int{5}, []int{0, 0, 0}, ""},
		{[]int{0, 5, 0}, many(200, 1), ""},
		{[]int{1, 1}, []int{0}, "0"},
		{[]int{1, 1}, []int{1}, "1"},
		{[]int{1, 1}, []int{0, 1, 1, 0, 0}, "01100"},
		{[]int{1, 1, 1}, []int{1}, "011"}, // from 1/3 to 2/3: 100 is as short
		{[]int{3, 2, 3}, []int{1}, "011"}, // from 3/8 to 5/8: as long as can be, for this width
		{[]int{1, 14, 1}, []int{1}, "01"}, // from 1/16 to 15/16: 10 is as short
		{[]int{1, 14, 1}, []int{1, 1}, "01"},
		{[]int{api.MaxWeight - 1, 1}, []int{0}, "0"},
		{[]int{1, api.MaxWeight - 1}, []int{1}, "1"},
		{[]int{1, api.MaxWeight - 1}, []int{0}, zeros(12)},
		{[]int{api.MaxWeight - 1, 1}, []int{1}, ones(12)},
		{[]int{api.MaxWeight - 1, 1}, many(200, 1), ones(2400)},
		{[]int{1, api.MaxWeight - 1}, many(200, 0), zeros(2400)},
	} {
		got, err := Encode(c.w, c.l)
		if got != c.want || err != nil {
			t.Error(c, got, err)
		}
	}
}

// Of small spans all texts are gone through.
func TestAllTexts(t *testing.T) {
	for _, w := range smallWeights(3) {
		for n := range 4 {
			for _, l := range messages(w, n) {
				low, high := wantSpan(w, l)
				if got, err := Encode(w, l); got != firstText(low, high) || got != wantText(low, high) || err != nil {
					t.Error(w, l, got, err)
				}
			}
		}
	}
}

func TestSomeTexts(t *testing.T) {
	r := rand.New(rand.NewSource(51))
	for k := range 400 {
		w := someWeights(r)
		n := r.Intn(12)
		if k%20 == 0 {
			n = r.Intn(api.MaxLetters + 1)
		}
		l := someMessage(r, w, n)
		if got, err := Encode(w, l); got != wantText(wantSpan(w, l)) || err != nil {
			t.Error(w, l, got, err)
		}
	}
}

func TestDecode(t *testing.T) {
	for _, c := range []struct {
		w    []int
		text string
		n    int
		want []int
	}{
		{[]int{1, 2, 1}, "101", 2, []int{1, 2}},
		{[]int{1, 2, 1}, "", 3, []int{0, 0, 0}},
		{[]int{1, 2, 1}, "101", 0, nil},
		{[]int{1, 2, 1}, "", 0, nil},
		{[]int{1, 2, 1}, "01", 1, []int{1}}, // where a part begins it belongs to that part
		{[]int{1, 2, 1}, "11", 1, []int{2}},
		{[]int{1, 2, 1}, "11", 3, []int{2, 0, 0}},
		{[]int{1, 1}, "0110", 4, []int{0, 1, 1, 0}},
		{[]int{1, 1}, "0110", 2, []int{0, 1}},
		{[]int{1, 1}, "0110", 6, []int{0, 1, 1, 0, 0, 0}},
		{[]int{0, 0, 1, 0, 1, 0}, "", 2, []int{2, 2}}, // no part is empty
		{[]int{0, 0, 1, 0, 1, 0}, "10", 2, []int{4, 2}},
		{[]int{0, 0, 1, 0, 1, 0}, "11", 2, []int{4, 4}},
		{[]int{0, 7, 0}, "11111", 3, []int{1, 1, 1}},
		{[]int{api.MaxWeight - 1, 1}, ones(12), 2, []int{1, 0}},
		{[]int{api.MaxWeight - 1, 1}, ones(11), 1, []int{0}},
		{[]int{1, 1}, ones(api.MaxText), 200, many(200, 1)},
		{[]int{1, 1}, zeros(api.MaxText), 200, many(200, 0)},
		{[]int{1, 1}, zeros(199) + ones(api.MaxText-199), 200, with(many(200, 0), 199, 1)},
	} {
		got, err := Decode(c.w, c.text, c.n)
		if !slices.Equal(got, c.want) || err != nil {
			t.Error(c, got, err)
		}
	}
}

// checkDecoded: the number lies in the interval of what is decoded, which has n symbols.
func checkDecoded(t *testing.T, w []int, text string, n int) {
	t.Helper()
	l, err := Decode(w, text, n)
	if err != nil || len(l) != n || len(l) > 0 && (slices.Min(l) < 0 || slices.Max(l) >= len(w)) {
		t.Error(w, text, n, l, err)
		return
	}
	low, high := wantSpan(w, l)
	if number, _ := dyadic(text); number.Cmp(low) < 0 || number.Cmp(high) >= 0 {
		t.Error(w, text, n, l)
	}
}

func TestAllNumbers(t *testing.T) {
	for _, w := range smallWeights(3) {
		for length := range 7 {
			for m := range 1 << length {
				for n := range 4 {
					checkDecoded(t, w, fmt.Sprintf("%0*b", length, m)[:length], n)
				}
			}
		}
	}
}

func TestSomeNumbers(t *testing.T) {
	r := rand.New(rand.NewSource(52))
	for k := range 300 {
		length, n := r.Intn(200), r.Intn(30)
		if k%20 == 0 {
			length, n = r.Intn(api.MaxText+1), r.Intn(api.MaxLetters+1)
		}
		checkDecoded(t, someWeights(r), someBits(r, length), n)
	}
	checkDecoded(t, []int{1, 2, 1}, someBits(r, api.MaxText), api.MaxLetters)
}

func TestDecodeErrors(t *testing.T) {
	for _, w := range badWeights() {
		bad := dist.Valid(w)
		for _, text := range []string{"", "01", "x", zeros(api.MaxText + 1)} {
			for _, n := range []int{0, 1, -1, 201} {
				if l, err := Decode(w, text, n); err != bad || len(l) != 0 {
					t.Error(w, text, n, l, err)
				}
			}
		}
	}
	long := zeros(api.MaxText + 1)
	for _, c := range []struct {
		text string
		n    int
		err  error
	}{
		{"01", -1, api.ErrBound},
		{"01", 201, api.ErrBound},
		{"01", math.MaxInt, api.ErrBound},
		{"01", math.MinInt, api.ErrBound},
		{long, 1, api.ErrBound},
		{long, 0, api.ErrBound},
		{"2", -1, api.ErrBound},
		{"2", 201, api.ErrBound},
		{strings.Repeat("x", api.MaxText+1), 1, api.ErrBound},
		{strings.Repeat("é", api.MaxText/2) + "0", 1, api.ErrBound},
		{strings.Repeat("é", api.MaxText/2), 1, api.ErrText},
		{long[2:] + "2", 1, api.ErrText},
		{"2", 0, api.ErrText},
		{"2", 200, api.ErrText},
		{"x01", 1, api.ErrText},
		{"0x1", 1, api.ErrText},
		{"01x", 1, api.ErrText},
		{"0 1", 1, api.ErrText},
		{"-1", 1, api.ErrText},
		{"0.1", 1, api.ErrText},
		{"0\x00", 1, api.ErrText},
		{"\xb0", 1, api.ErrText},
	} {
		if l, err := Decode([]int{1, 2}, c.text, c.n); err != c.err || len(l) != 0 {
			t.Error(c, l, err)
		}
	}
	for b := range 256 {
		text := "0" + string([]byte{byte(b)}) + "1"
		_, err := Decode([]int{1, 2}, text, 1)
		if want := b == '0' || b == '1'; want != (err == nil) || !want && err != api.ErrText {
			t.Error(b, err)
		}
	}
}
