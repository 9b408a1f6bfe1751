package sample

import (
	"math"
	"math/rand"
	"slices"
	"strings"
	"testing"

	"demon/api"
)

// P140 and P141

func TestDraw(t *testing.T) {
	sixteen := many(16, 1)
	for _, x := range []struct {
		w           []int
		bits        string
		which, used int
	}{
		// One outcome has all, a power of 2: nothing is read.
		{[]int{1}, "", 0, 0},
		{[]int{1}, "0110", 0, 0},
		{[]int{4096}, "", 0, 0},
		{[]int{0, 0, 8, 0}, "111", 2, 0},
		// All, but not a power of 2.
		{[]int{3}, "0", 0, 1},
		{[]int{3}, "10", 0, 2},
		{[]int{3}, "110", 0, 3},
		{[]int{3}, "111111" + "10", 0, 8},
		{[]int{5}, "000", 0, 1},
		{[]int{5}, "100", 0, 3},
		{[]int{5}, "1100", 0, 3},
		{[]int{5}, "111" + "10" + "0", 0, 6},
		{[]int{0, 5}, "1110", 1, 4},
		{[]int{1, 1}, "0", 0, 1},
		{[]int{1, 1}, "1", 1, 1},
		{[]int{1, 0, 1}, "1", 2, 1},
		{[]int{1, 1, 1}, "00", 0, 2},
		{[]int{1, 1, 1}, "01", 1, 2},
		{[]int{1, 1, 1}, "10", 2, 2},
		{[]int{1, 1, 1}, "1100", 0, 4},
		{[]int{1, 1, 1}, "1110", 2, 4},
		{[]int{1, 1, 1}, "11111101", 1, 8},
		// A greater weight has a leaf higher up, though others stand ahead of it.
		{[]int{1, 2, 1}, "0", 1, 1},
		{[]int{1, 2, 1}, "10", 0, 2},
		{[]int{1, 2, 1}, "11", 2, 2},
		{[]int{3, 1}, "0", 0, 1},
		{[]int{3, 1}, "10", 0, 2},
		{[]int{3, 1}, "11", 1, 2},
		{[]int{1, 3}, "10", 0, 2},
		{[]int{1, 3}, "11", 1, 2},
		// Of 2, 3 and `again`, 3: at depth 2 each of the three has a leaf, at depth 3 the last two.
		{[]int{2, 3}, "00", 0, 2},
		{[]int{2, 3}, "01", 1, 2},
		{[]int{2, 3}, "1000", 0, 4},
		{[]int{2, 3}, "1001", 1, 4},
		{[]int{2, 3}, "110", 1, 3},
		{[]int{2, 3}, "11101", 1, 5},
		{[]int{2, 3}, "111" + "10" + "110", 1, 8},
		{sixteen, "1011", 11, 4},
		{[]int{4095}, "1111111111110", 0, 13},
		{[]int{4095, 1}, "111111111111", 1, 12},
		{[]int{2049}, strings.Repeat("1", 11) + "0", 0, 12},
	} {
		which, used, err := Draw(x.w, x.bits)
		if which != x.which || used != x.used || err != nil {
			t.Error(x, which, used, err)
		}
	}
}

func checkRefused(t *testing.T, w []int, bits string, want error) {
	t.Helper()
	which, used, err := Draw(w, bits)
	if err != want || err != nil && (which != 0 || used != 0) {
		t.Error(w, len(bits), which, used, err)
	}
}

// wrongWeights, with dist.Valid's errors.
func wrongWeights() []struct {
	w   []int
	err error
} {
	return []struct {
		w   []int
		err error
	}{
		{nil, api.ErrShape}, {[]int{}, api.ErrShape}, {[]int{0}, api.ErrShape}, {many(16, 0), api.ErrShape}, {[]int{-1, 2}, api.ErrShape}, {[]int{math.MinInt, 1}, api.ErrShape}, {[]int{5000, -1}, api.ErrShape},
		{many(17, 1), api.ErrBound}, {many(17, 0), api.ErrBound}, {make([]int, 100000), api.ErrBound}, {[]int{4097}, api.ErrBound}, {[]int{4096, 1}, api.ErrBound}, {[]int{math.MaxInt, math.MaxInt, 2}, api.ErrBound}, {many(16, 257), api.ErrBound},
	}
}

func TestDrawRefuses(t *testing.T) {
	three := []int{1, 1, 1}
	long := strings.Repeat("1", 4000)
	for _, x := range wrongWeights() {
		for _, bits := range []string{"", "0110", "2", long, long + "1"} {
			checkRefused(t, x.w, bits, x.err)
		}
	}
	for _, w := range [][]int{{1}, {1, 1}, three, {4096}, {4095}} {
		for _, wrong := range []string{"2", "/", " ", "a", "\x00", "\xff", "\n", "é", "٠", "-1"} {
			// A wrong byte is one wherever it stands, also behind the bits that are needed, and where there are too few.
			for _, bits := range []string{wrong, wrong + "0101010101010", "0101010101010" + wrong, "0" + wrong + "0", "0" + wrong, long[len(wrong):] + wrong} {
				checkRefused(t, w, bits, api.ErrText)
			}
			// Too many bytes come ahead of a wrong one.
			checkRefused(t, w, long+wrong, api.ErrBound)
			checkRefused(t, w, wrong+long, api.ErrBound)
		}
		checkRefused(t, w, long+"0", api.ErrBound)
		checkRefused(t, w, strings.Repeat("0", 4001), api.ErrBound)
		checkRefused(t, w, strings.Repeat("0", 100000), api.ErrBound)
		checkRefused(t, w, strings.Repeat("0", 4000), nil)
	}
	for _, x := range []struct {
		w    []int
		bits string
	}{
		{[]int{1, 1}, ""}, {three, ""}, {three, "0"}, {three, "1"}, {three, "11"}, {three, "111"}, {three, "1111"}, {three, "11111"}, {three, long}, {three, long[1:]},
		{[]int{3}, ""}, {[]int{3}, "1"}, {[]int{3}, "11"}, {[]int{4095, 1}, long[:11]}, {[]int{4095}, long[:12]}, {many(16, 1), "101"}, {[]int{2, 3}, "1"}, {[]int{2, 3}, "10"}, {[]int{2, 3}, "111"},
	} {
		checkRefused(t, x.w, x.bits, api.ErrNone)
	}
}

// To the last bit that there may be.
func TestDrawLong(t *testing.T) {
	for _, x := range []struct {
		w           []int
		bits        string
		which, used int
	}{
		{[]int{1, 1, 1}, strings.Repeat("11", 1999) + "01", 1, 4000},
		{[]int{3}, strings.Repeat("11", 1999) + "10", 0, 4000},
		{[]int{3}, strings.Repeat("11", 1999) + "00", 0, 3999},
		{[]int{0, 5, 0}, strings.Repeat("10", 1999) + "00", 1, 3999},
	} {
		if which, used, err := Draw(x.w, x.bits); which != x.which || used != x.used || err != nil {
			t.Error(x, which, used, err)
		}
		checkRefused(t, x.w, x.bits[:x.used-1], api.ErrNone)
		checkRefused(t, x.w, "0"+x.bits, api.ErrBound)
	}
}

// checkDraw against words; what is behind the bits that are needed changes nothing.
func checkDraw(t *testing.T, w []int, words map[string]int, bits string) {
	t.Helper()
	which, used, err := Draw(w, bits)
	i, k, ok := wantDraw(words, bits)
	if !ok {
		if which != 0 || used != 0 || err != api.ErrNone {
			t.Fatal(w, bits, which, used, err)
		}
		return
	}
	if which != i || used != k || err != nil {
		t.Fatal(w, bits, which, used, err, i, k)
	}
	for _, behind := range []string{"", "0", "1", "1101"} {
		if i, k, err := Draw(w, bits[:used]+behind); i != which || k != used || err != nil {
			t.Fatal(w, bits, which, used, i, k, err)
		}
	}
}

func TestAllDraws(t *testing.T) {
	for _, w := range smallWeights(3, 4) {
		words := wordsOf(w)
		for k := range 8 {
			eachBits(k, func(s string) { checkDraw(t, w, words, s) })
		}
	}
}

func TestSomeDraws(t *testing.T) {
	r := rand.New(rand.NewSource(140))
	for k := range 1000 {
		w := someWeights(r, []int{6, 40, 4096}[k%3])
		words := wordsOf(w)
		for range 30 {
			checkDraw(t, w, words, someBits(r, r.Intn(40)))
		}
		// Each word, and again and again ahead of it.
		repeated := ""
		for word, i := range words {
			if i == again {
				repeated += word
			}
		}
		for word := range words {
			checkDraw(t, w, words, word)
			checkDraw(t, w, words, repeated+repeated+word)
		}
	}
}

func TestFlips(t *testing.T) {
	for _, x := range []struct {
		w    []int
		want api.Frac
	}{
		{[]int{1}, frac(0, 1)},
		{[]int{4096}, frac(0, 1)},
		{[]int{0, 2, 0}, frac(0, 1)},
		{[]int{1, 1}, frac(1, 1)},
		{[]int{0, 7, 7}, frac(3, 1)},
		{[]int{1, 1, 1}, frac(8, 3)},
		{[]int{3, 1}, frac(3, 2)},
		{[]int{1, 2, 1}, frac(3, 2)},
		// Of one outcome: there is nothing to tell, but a round may come to `again`.
		{[]int{3}, frac(2, 1)},
		{[]int{5}, frac(14, 5)},
		{[]int{7}, frac(2, 1)},
		{[]int{2, 3}, frac(18, 5)},
		{many(16, 1), frac(4, 1)},
		{many(16, 256), frac(4, 1)},
		{[]int{1, 4095}, frac(4095, 2048)},
	} {
		if f, err := Flips(x.w); f != x.want || err != nil {
			t.Error(x, f, err)
		}
	}
	for _, x := range wrongWeights() {
		if f, err := Flips(x.w); f != (api.Frac{}) || err != x.err {
			t.Error(x, f, err)
		}
	}
}

func TestSomeFlips(t *testing.T) {
	all := smallWeights(4, 5)
	r := rand.New(rand.NewSource(141))
	for k := range 3000 {
		all = append(all, someWeights(r, []int{6, 40, 4096}[k%3]))
	}
	for n := 1; n <= 4096; n++ {
		all = append(all, []int{n})
	}
	for _, w := range all {
		if f, err := Flips(w); !told(f, wantFlips(w)) || err != nil {
			t.Error(w, f, err)
		}
		// Where outcomes stand changes nothing, nor do outcomes without a weight.
		turned := slices.Clone(w)
		slices.Reverse(turned)
		turned = append(make([]int, (16-len(w))/2), turned...)
		if f, err := Flips(turned); !told(f, wantFlips(w)) || err != nil {
			t.Error(turned, f, err)
		}
	}
}
