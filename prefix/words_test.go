package prefix

// P40 and P41.

import (
	"math"
	"math/rand"
	"slices"
	"strings"
	"testing"

	"demon/api"
)

type wordsCase struct {
	words []string
	err   error
}

// wordsCases are those of Valid's errors.
func wordsCases() []wordsCase {
	long, tooLong := zeros(api.MaxWord), zeros(api.MaxWord+1)
	return []wordsCase{
		{[]string{"0"}, nil},
		{[]string{"1", "1"}, nil},
		{[]string{"0110", long}, nil},
		{slices.Repeat([]string{long}, api.MaxSize), nil},
		{nil, api.ErrShape},
		{[]string{}, api.ErrShape},
		{[]string{""}, api.ErrShape},
		{[]string{"0", ""}, api.ErrShape},
		{[]string{"", "0"}, api.ErrShape},
		{make([]string, api.MaxSize), api.ErrShape},
		{[]string{"2"}, api.ErrText},
		{[]string{"/"}, api.ErrText},
		{[]string{"0 1"}, api.ErrText},
		{[]string{"01a"}, api.ErrText},
		{[]string{"a01"}, api.ErrText},
		{[]string{"0", "1", "1\x00"}, api.ErrText},
		{[]string{"\xff"}, api.ErrText},
		{[]string{"0１"}, api.ErrText},
		{[]string{"", "2"}, api.ErrText},
		{[]string{"2", ""}, api.ErrText},
		{[]string{tooLong}, api.ErrBound},
		{[]string{"0", tooLong}, api.ErrBound},
		{[]string{"2", "", tooLong}, api.ErrBound},
		{[]string{"", tooLong}, api.ErrBound},
		{[]string{strings.Repeat("x", api.MaxWord+1)}, api.ErrBound},
		{[]string{strings.Repeat("x", api.MaxWord)}, api.ErrText},
		{slices.Repeat([]string{"0"}, api.MaxSize+1), api.ErrBound},
		{make([]string, api.MaxSize+1), api.ErrBound},
		{slices.Repeat([]string{"2"}, api.MaxSize+1), api.ErrBound},
	}
}

func TestValid(t *testing.T) {
	for _, c := range wordsCases() {
		if err := Valid(c.words); err != c.err {
			t.Error(c, err)
		}
	}
}

func TestWordsAreChecked(t *testing.T) {
	for _, c := range wordsCases() {
		if c.err == nil {
			continue
		}
		if is, err := Prefix(c.words); is || err != c.err {
			t.Error(c, is, err)
		}
		if is, err := Unique(c.words); is || err != c.err {
			t.Error(c, is, err)
		}
		for _, text := range []string{"", "0", "x", zeros(api.MaxText + 1)} {
			if l, err := Decode(c.words, text); len(l) != 0 || err != c.err {
				t.Error(c, text, l, err)
			}
		}
	}
}

// P40

// oneByOne are the lengths 1, 2, up to n, and n again.
func oneByOne(n int) []int {
	var out []int
	for x := range n {
		out = append(out, x+1)
	}
	return append(out, n)
}

func TestKraft(t *testing.T) {
	for _, c := range []struct {
		lengths []int
		want    api.Frac
	}{
		{[]int{2, 1, 3}, api.Frac{Num: 7, Den: 8}},
		{[]int{1}, api.Frac{Num: 1, Den: 2}},
		{[]int{1, 1}, api.Frac{Num: 1, Den: 1}},
		{many(3, 2), api.Frac{Num: 3, Den: 4}},
		{[]int{40}, api.Frac{Num: 1, Den: 1 << 40}},
		{[]int{1, 40}, api.Frac{Num: 1<<39 + 1, Den: 1 << 40}},
		{many(16, 40), api.Frac{Num: 1, Den: 1 << 36}},
		{many(16, 1), api.Frac{Num: 8, Den: 1}},
		{many(16, 4), api.Frac{Num: 1, Den: 1}},
		{with(many(16, 4), 7, 3), api.Frac{Num: 17, Den: 16}},
		{oneByOne(15), api.Frac{Num: 1, Den: 1}},
	} {
		if f, err := Kraft(c.lengths); err != nil || f != c.want {
			t.Error(c, f, err)
		}
	}
	r := rand.New(rand.NewSource(40))
	for range 500 {
		l := make([]int, 1+r.Intn(16))
		for i := range l {
			l[i] = 1 + r.Intn(1+r.Intn(40))
		}
		f, err := Kraft(l)
		if want := wantKraft(l); err != nil || int64(f.Num) != want.Num().Int64() || int64(f.Den) != want.Denom().Int64() {
			t.Error(l, f, err)
		}
	}
}

func TestLengthsAreChecked(t *testing.T) {
	for _, c := range []struct {
		lengths []int
		err     error
	}{
		{nil, api.ErrShape},
		{[]int{}, api.ErrShape},
		{[]int{0}, api.ErrShape},
		{[]int{41}, api.ErrShape},
		{[]int{-1}, api.ErrShape},
		{[]int{1, 0}, api.ErrShape},
		{[]int{41, 1}, api.ErrShape},
		{[]int{1, 1, 1, 0}, api.ErrShape},
		{[]int{math.MaxInt, 2}, api.ErrShape},
		{[]int{2, math.MinInt}, api.ErrShape},
		{many(16, 0), api.ErrShape},
		{many(17, 5), api.ErrBound},
		{many(17, 0), api.ErrBound},
		{many(17, 41), api.ErrBound},
	} {
		if f, err := Kraft(c.lengths); err != c.err || f != (api.Frac{}) {
			t.Error(c, f, err)
		}
		if w, err := Canon(c.lengths); err != c.err || len(w) != 0 {
			t.Error(c, w, err)
		}
	}
}

func TestCanon(t *testing.T) {
	for _, c := range []struct {
		lengths []int
		want    string
	}{
		{[]int{2, 1, 2}, "10 0 11"},
		{[]int{2, 1, 3, 3}, "10 0 110 111"},
		{[]int{1}, "0"},
		{[]int{3}, "000"},
		{[]int{3, 1}, "100 0"},
		{[]int{3, 3, 2}, "010 011 00"},
		{many(4, 2), "00 01 10 11"},
		{[]int{4, 2, 4, 1, 3}, "1110 10 1111 0 110"},
		{[]int{40, 1, 40}, "1" + zeros(39) + " 0 1" + zeros(38) + "1"},
		{[]int{40}, zeros(40)},
		{oneByOne(3), "0 10 110 111"},
	} {
		if w, err := Canon(c.lengths); err != nil || strings.Join(w, " ") != c.want {
			t.Error(c, w, err)
		}
	}
	w, err := Canon(oneByOne(15))
	if err != nil || w[14] != strings.Repeat("1", 14)+"0" || w[15] != strings.Repeat("1", 15) {
		t.Error(w, err)
	}
}

func TestCanonNone(t *testing.T) {
	for _, l := range [][]int{{1, 1, 1}, {1, 1, 2}, {1, 1, 40}, {40, 1, 1}, many(16, 3), many(16, 1), with(many(16, 4), 0, 3), append(oneByOne(14), 40)} {
		if w, err := Canon(l); err != api.ErrNone || len(w) != 0 {
			t.Error(l, w, err)
		}
	}
}

// All short lists of lengths, against the document's words.
func TestCanonTakesTheFirst(t *testing.T) {
	for n := 1; n <= 5; n++ {
		for _, l := range allLists(n, 1, 4) {
			checkCanon(t, l)
		}
	}
	r := rand.New(rand.NewSource(41))
	for range 200 {
		l := make([]int, 1+r.Intn(16))
		for i := range l {
			l[i] = 1 + r.Intn(7)
		}
		checkCanon(t, l)
	}
}

func checkCanon(t *testing.T, l []int) {
	t.Helper()
	w, err := Canon(l)
	want, fit := wantCanon(l)
	if fit == above1(wantKraft(l)) {
		t.Fatal(l, "Kraft and words do not go together")
	}
	if !fit {
		if err != api.ErrNone || len(w) != 0 {
			t.Error(l, w, err)
		}
		return
	}
	if err != nil || !slices.Equal(w, want) {
		t.Error(l, w, want, err)
	}
	if is, err := Prefix(w); !is || err != nil {
		t.Error(l, w, is, err)
	}
}

// P41

func TestPrefixAndUnique(t *testing.T) {
	for _, c := range []struct {
		words          string
		prefix, unique bool
	}{
		{"0", true, true},
		{"0 10 11", true, true},
		{"11 0 10", true, true},
		{"0 01 11", false, true},
		{"01 0 11", false, true},
		{"0 01 10", false, false},
		{"1 1", false, false},
		{"00 1 00", false, false},
		{"0 00", false, false},
		{"00 000", false, false},
		{"1 10 100 1000", false, true},
		{"1 011 01110 1110 10011", false, false},
		{"10 010 1", false, false},
		{"01 10 011 110", false, false},
		{"0 1 00", false, false},
		{"0010 00 10", false, false},
		{"0 11 1110", false, true},
		{"0 11 1100", false, false},
		{"01 0111 11", false, false},
		{"01 011 11", false, true},
		{zeros(64) + " " + zeros(63), false, false},
		{zeros(63) + "1 " + zeros(63), false, true},
		{"1" + zeros(63) + " 1 " + zeros(63), false, false},
		{"1" + zeros(63) + " 1 " + zeros(62), false, true},
	} {
		w := strings.Split(c.words, " ")
		if is, err := Prefix(w); is != c.prefix || err != nil {
			t.Error(c, is, err)
		}
		if is, err := Unique(w); is != c.unique || err != nil {
			t.Error(c, is, err)
		}
	}
}

// checkCode: Prefix, Unique and the Kraft sum (McMillan's, of P45) of words.
func checkCode(t *testing.T, words []string) (unique bool) {
	t.Helper()
	begins := false
	for i, a := range words {
		begins = begins || begun(a, words[:i]) || begun(a, words[i+1:])
	}
	if is, err := Prefix(words); is == begins || err != nil {
		t.Error(words, is, err)
	}
	unique, err := Unique(words)
	if unique != wantUnique(words) || err != nil {
		t.Error(words, unique, err)
	}
	if !begins && !unique || unique && above1(wantKraft(lengthsOf(words))) {
		t.Error(words, "begins:", begins, "unique:", unique)
	}
	return unique
}

// Of all rows of three short words: against texts that are written out.
func TestUniqueOfAll(t *testing.T) {
	all := wordsUpTo(3)
	for _, a := range all {
		for _, b := range all {
			checkCode(t, []string{a, b})
			for _, c := range all {
				w := []string{a, b, c}
				// Five words are enough to tell, of words as short as these.
				if checkCode(t, w) == twice(w, 5) {
					t.Error(w)
				}
			}
		}
	}
}

func TestUniqueOfMany(t *testing.T) {
	r := rand.New(rand.NewSource(42))
	unique := 0
	for range 3000 {
		if checkCode(t, someCode(r, 1+r.Intn(6), 1+r.Intn(7))) {
			unique++
		}
	}
	if unique < 300 || unique > 2700 {
		t.Error("hardly ever something else:", unique)
	}
	for range 20 {
		checkCode(t, someCode(r, api.MaxSize, api.MaxWord))
	}
}

// A code that can be read only from behind is unique, as well.
func TestUniqueBackward(t *testing.T) {
	r := rand.New(rand.NewSource(43))
	for range 300 {
		l := make([]int, 2+r.Intn(15))
		for i := range l {
			l[i] = 1 + r.Intn(12)
		}
		words, err := Canon(l)
		if err != nil {
			continue
		}
		for i, w := range words {
			letters := []byte(w)
			slices.Reverse(letters)
			words[i] = string(letters)
		}
		if is, err := Unique(words); !is || err != nil {
			t.Error(words, is, err)
		}
	}
}

func TestDecode(t *testing.T) {
	three := []string{"0", "10", "11"}
	for _, c := range []struct {
		words []string
		text  string
		want  []int
	}{
		{three, "110100", []int{2, 0, 1, 0}},
		{three, "", nil},
		{three, "0", []int{0}},
		{three, "11", []int{2}},
		{[]string{"11", "10", "0"}, "110100", []int{0, 2, 1, 2}},
		{[]string{"1"}, "111", []int{0, 0, 0}},
		{[]string{zeros(64)}, zeros(192), []int{0, 0, 0}},
		{[]string{"0"}, zeros(api.MaxText), many(api.MaxText, 0)},
	} {
		if l, err := Decode(c.words, c.text); err != nil || !slices.Equal(l, c.want) {
			t.Error(c, l, err)
		}
	}
}

func TestDecodeRefuses(t *testing.T) {
	three, begins := []string{"0", "10", "11"}, []string{"10", "0", "101"}
	for _, c := range []struct {
		words []string
		text  string
		err   error
	}{
		{begins, "10", api.ErrKind},
		{begins, "", api.ErrKind},
		{[]string{"101", "10"}, "10", api.ErrKind},
		{[]string{"1", "1"}, "1", api.ErrKind},
		{begins, zeros(api.MaxText + 1), api.ErrKind},
		{begins, "x", api.ErrKind},
		{three, zeros(api.MaxText + 1), api.ErrBound},
		{three, strings.Repeat("x", api.MaxText+1), api.ErrBound},
		{three, strings.Repeat("x", api.MaxText), api.ErrText},
		{three, "1", api.ErrText},
		{three, "0101", api.ErrText},
		{three, "x", api.ErrText},
		{three, "0 0", api.ErrText},
		{three, "00\n", api.ErrText},
		{[]string{"00"}, "000", api.ErrText},
		{[]string{"00"}, "001", api.ErrText},
		{[]string{zeros(64)}, zeros(63), api.ErrText},
	} {
		if l, err := Decode(c.words, c.text); err != c.err || len(l) != 0 {
			t.Error(c, l, err)
		}
	}
}

// What is written by words is read again.
func TestDecodeBack(t *testing.T) {
	r := rand.New(rand.NewSource(44))
	for range 300 {
		l, err := Huffman(someWeights(r, 2+r.Intn(15), 100))
		if err != nil {
			t.Fatal(err)
		}
		words, err := Canon(l)
		if err != nil {
			t.Fatal(l, err)
		}
		var row []int
		var text strings.Builder
		for range r.Intn(200) {
			i := r.Intn(len(words))
			row = append(row, i)
			text.WriteString(words[i])
		}
		got, err := Decode(words, text.String())
		if err != nil || !slices.Equal(got, row) {
			t.Error(words, row, got, err)
		}
	}
}
