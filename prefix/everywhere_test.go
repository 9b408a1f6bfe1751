package prefix

// P1 to P4, as far as they speak of package prefix.

import (
	"math"
	"reflect"
	"slices"
	"strings"
	"sync"
	"testing"

	"demon/api"
)

func wildNumbers() []int {
	return []int{math.MinInt, -api.MaxWeight, -1, 0, 1, 2, 39, 40, 41, 63, 64, 65, api.MaxWeight - 1, api.MaxWeight, api.MaxWeight + 1, 1 << 62, math.MaxInt}
}

func wildLists() [][]int {
	out := [][]int{nil, {}, make([]int, 16), make([]int, 17), many(16, 1), many(17, 1), many(16, math.MaxInt), many(100000, 1)}
	for _, x := range wildNumbers() {
		out = append(out, []int{x})
		for _, y := range wildNumbers() {
			out = append(out, []int{x, y}, []int{x, y, 1})
		}
	}
	return out
}

func wildTexts() []string {
	return []string{"", "0", "1", "01", "10", "2", "\x00", "\xff\xfe", "0\n", "é", zeros(64), zeros(65), zeros(api.MaxText), zeros(api.MaxText + 1), strings.Repeat("01", 100000)}
}

func wildWords() [][]string {
	out := [][]string{nil, {}, make([]string, 16), make([]string, 17), make([]string, 100000), slices.Repeat([]string{zeros(64)}, 16)}
	for _, a := range wildTexts() {
		out = append(out, []string{a})
		for _, b := range wildTexts() {
			out = append(out, []string{a, b})
		}
	}
	return out
}

// P1 and P3: every call ends without a panic; with an error there is nothing else.
func TestWildWords(t *testing.T) {
	for _, w := range wildWords() {
		bad := Valid(w)
		if is, err := Prefix(w); err != bad || err != nil && is {
			t.Error(w, is, err)
		}
		if is, err := Unique(w); err != bad || err != nil && is {
			t.Error(w, is, err)
		}
		for _, text := range wildTexts() {
			l, err := Decode(w, text)
			if bad != nil && err != bad || err != nil && len(l) != 0 || err == nil && (len(l) == 0) != (text == "") {
				t.Error(w, text, l, err)
			}
		}
	}
}

func TestWildLists(t *testing.T) {
	known := func(err error) bool { return err == nil || err == api.ErrBound || err == api.ErrShape }
	for _, p := range wildLists() {
		f, err := Kraft(p)
		if !known(err) || (f == api.Frac{}) != (err != nil) {
			t.Error(p, f, err)
		}
		if w, bad := Canon(p); bad != err && bad != api.ErrNone || (len(w) == 0) != (bad != nil) {
			t.Error(p, w, bad)
		}
		l, err := Huffman(p)
		if !known(err) || (len(l) == 0) != (err != nil) {
			t.Error(p, l, err)
		}
		if a, bad := Alphabetic(p); bad != err || len(a) != len(l) {
			t.Error(p, a, bad)
		}
		for _, q := range wildLists() {
			if cost, root, err := Search(p, q); !known(err) || err != nil && (cost != 0 || root != 0) {
				t.Error(p, q, cost, root, err)
			}
		}
	}
}

// answers of all calls of the package.
func answers(words []string, text string, lengths, w, gaps []int) []any {
	var out []any
	put := func(a any, err error) { out = append(out, a, err) }
	put(nil, Valid(words))
	f, err := Kraft(lengths)
	put(f, err)
	c, err := Canon(lengths)
	put(c, err)
	for _, call := range []func([]string) (bool, error){Prefix, Unique} {
		is, err := call(words)
		put(is, err)
	}
	l, err := Decode(words, text)
	put(l, err)
	for _, call := range []func([]int) ([]int, error){Huffman, Alphabetic} {
		l, err := call(w)
		put(l, err)
	}
	cost, root, err := Search(w, gaps)
	put([2]int{cost, root}, err)
	return out
}

// P2: the same answers, however many ask at once.
func TestSideBySide(t *testing.T) {
	words := []string{"00", "010", "011", "1000", "11"}
	lengths, w, gaps := []int{3, 2, 40, 3, 2}, []int{7, 1, 0, 7, 3}, []int{1, 2, 3, 2, 1, 0}
	want := answers(words, "00010111000", lengths, w, gaps)
	for i := 1; i < len(want); i += 2 {
		if want[i] != nil {
			t.Error(i, want)
		}
	}
	var all sync.WaitGroup
	for range 16 {
		all.Go(func() {
			for range 30 {
				if got := answers(words, "00010111000", lengths, w, gaps); !reflect.DeepEqual(got, want) {
					t.Error(got, want)
				}
			}
		})
	}
	all.Wait()
}

// P3 and P4: what lies behind a list's length is left alone, what is handed over is only read.
func TestOnlyRead(t *testing.T) {
	memory := []int{3, 1, 2, -1, math.MaxInt, 5, 0, 7, -1, math.MaxInt, 1, 2, 3, 4, -1, math.MaxInt}
	texts := []string{"11", "0", "10", "x", ""}
	kept, keptTexts := slices.Clone(memory), slices.Clone(texts)
	got := answers(texts[:3], "1100", memory[0:3], memory[5:8], memory[10:14])
	want := answers([]string{"11", "0", "10"}, "1100", []int{3, 1, 2}, []int{5, 0, 7}, []int{1, 2, 3, 4})
	if !reflect.DeepEqual(got, want) {
		t.Error(got, want)
	}
	if !slices.Equal(memory, kept) || !slices.Equal(texts, keptTexts) {
		t.Error(memory, texts)
	}
}

// P4: what is answered is new memory.
func TestNewMemory(t *testing.T) {
	words, lengths, w, gaps := []string{"0", "10", "11"}, []int{1, 2, 2}, []int{1, 2, 4}, []int{1, 0, 0, 1}
	want := answers(words, "01011", lengths, w, gaps)
	for _, a := range answers(words, "01011", lengths, w, gaps) {
		switch x := a.(type) {
		case []int:
			for i := range x[:cap(x)] {
				x[:cap(x)][i] = -1
			}
		case []string:
			for i := range x[:cap(x)] {
				x[:cap(x)][i] = "x"
			}
		}
	}
	if got := answers(words, "01011", lengths, w, gaps); !reflect.DeepEqual(got, want) {
		t.Error(got, want)
	}
	if !slices.Equal(words, []string{"0", "10", "11"}) || !slices.Equal(lengths, []int{1, 2, 2}) || !slices.Equal(w, []int{1, 2, 4}) || !slices.Equal(gaps, []int{1, 0, 0, 1}) {
		t.Error(words, lengths, w, gaps)
	}
}
