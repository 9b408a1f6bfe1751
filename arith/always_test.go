package arith

// P54

import (
	"math/big"
	"math/rand"
	"slices"
	"strings"
	"testing"

	"demon/api"
)

// checkAgain: what is encoded is decoded, also with more bits behind it, and its text is short: 2 to the power of its length, times the width, is below 4.
func checkAgain(t *testing.T, w, l []int, behind ...string) {
	t.Helper()
	text, err := Encode(w, l)
	if err != nil {
		t.Error(w, l, err)
		return
	}
	for _, b := range append(behind, "") {
		if back, err := Decode(w, text+b, len(l)); err != nil || !slices.Equal(back, l) {
			t.Error(w, l, text, b, back, err)
		}
	}
	wide := rat(1, 1)
	for _, s := range l {
		wide.Mul(wide, rat(w[s], sumOf(w)))
	}
	power := new(big.Rat).SetInt(new(big.Int).Lsh(big.NewInt(1), uint(len(text))))
	if wide.Mul(wide, power).Cmp(rat(4, 1)) >= 0 {
		t.Error("long:", w, l, text)
	}
	if wide.Cmp(rat(1, 1)) < 0 {
		t.Error("shorter than can be:", w, l, text)
	}
}

func TestAgain(t *testing.T) {
	for _, w := range smallWeights(4) {
		for n := range 5 {
			for _, l := range messages(w, n) {
				checkAgain(t, w, l, "0", "1", "0110", ones(70))
			}
		}
	}
}

func TestSomeAgain(t *testing.T) {
	r := rand.New(rand.NewSource(54))
	for k := range 500 {
		w, n := someWeights(r), r.Intn(40)
		if k%10 == 0 {
			n = r.Intn(api.MaxLetters + 1)
		}
		checkAgain(t, w, someMessage(r, w, n), someBits(r, r.Intn(100)))
	}
}

// The longest texts: 200 symbols, each of the least chance.
func TestLongestAgain(t *testing.T) {
	r := rand.New(rand.NewSource(55))
	least := with(many(16, 1), 7, api.MaxWeight-15)
	l := make([]int, api.MaxLetters)
	for i := range l {
		l[i] = (8 + r.Intn(15)) % 16
	}
	checkAgain(t, least, l, ones(api.MaxText-2402), zeros(api.MaxText-2402))
	for _, w := range [][]int{{api.MaxWeight - 1, 1}, {1, api.MaxWeight - 1}, {2048, 2048}, {2047, 2, 2047}, {1, 4093, 1}, {4093}} {
		for s := range w {
			checkAgain(t, w, many(api.MaxLetters, s), ones(1000), zeros(1000))
		}
	}
}

// No word begins another one: in order a word's neighbour would be the first that it begins.
func TestNoWordBeginsAnother(t *testing.T) {
	all := numbers()
	slices.Sort(all)
	all = slices.Compact(all)
	for _, c := range codes() {
		var words []string
		for _, n := range all {
			word, err := c.write(n)
			if err != nil || word == "" {
				t.Error(c.name, n, err)
			}
			words = append(words, word)
		}
		slices.Sort(words)
		for i := 1; i < len(words); i++ {
			if strings.HasPrefix(words[i], words[i-1]) {
				t.Error(c.name, words[i-1], words[i])
			}
		}
	}
}
