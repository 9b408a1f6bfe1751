package arith

// P1 to P4, as far as they speak of package arith.

import (
	"errors"
	"math"
	"reflect"
	"slices"
	"strings"
	"sync"
	"testing"

	"demon/api"
	"demon/dist"
)

func wildNumbers() []int {
	return []int{math.MinInt, -api.MaxWeight, -1, 0, 1, 2, 15, 16, 17, 199, 200, 201, api.MaxWeight - 1, api.MaxWeight, api.MaxWeight + 1, 1000000000, 1000000001, 1 << 62, math.MaxInt}
}

func wildLists() [][]int {
	out := [][]int{nil, {}, make([]int, 16), make([]int, 17), many(16, 1), many(16, 256), many(17, 1), many(16, math.MaxInt), many(200, 0), many(200, 1), many(201, 0), many(100000, 1)}
	for _, x := range wildNumbers() {
		out = append(out, []int{x}, []int{x, 1}, []int{1, x}, []int{0, x, 1})
	}
	return out
}

func wildTexts() []string {
	return []string{"", "0", "1", "01", "10", "2", "\x00", "\xff\xfe", "0\n", "é", zeros(30), zeros(31), ones(80), zeros(api.MaxText), ones(api.MaxText), zeros(api.MaxText + 1), strings.Repeat("01", 100000), strings.Repeat("x", 100000)}
}

// P1 and P3: every call ends without a panic; with an error there is nothing else.
func TestWildMessages(t *testing.T) {
	for _, w := range wildLists() {
		bad := dist.Valid(w)
		for _, l := range wildLists() {
			text, err := Encode(w, l)
			if bad != nil && err != bad || err != nil && text != "" {
				t.Error(w, l, text, err)
			}
			low, width, worse := Interval(w, l)
			if worse != nil && (low != api.Frac{} || width != api.Frac{}) || worse == nil && (low.Den < 1 || width.Num < 1 || width.Den < 1) {
				t.Error(w, l, low, width, worse)
			}
			if err != nil && !reflect.DeepEqual(err, worse) || err == nil && worse != nil && worse != api.ErrBound {
				t.Error(w, l, err, worse)
			}
			known := err == nil || err == api.ErrBound || err == api.ErrShape || errors.Is(err, api.ErrShape) || errors.Is(err, api.ErrZero)
			if !known {
				t.Error(w, l, err)
			}
		}
		for _, text := range wildTexts() {
			for _, n := range wildNumbers() {
				l, err := Decode(w, text, n)
				if bad != nil && err != bad || err != nil && len(l) != 0 || err == nil && len(l) != n {
					t.Error(w, text, n, l, err)
				}
			}
		}
	}
}

func TestWildWords(t *testing.T) {
	for _, c := range codes() {
		for _, n := range wildNumbers() {
			if word, err := c.write(n); (word == "") != (err != nil) || err != nil && err != api.ErrBound {
				t.Error(c.name, n, word, err)
			}
		}
		for _, text := range wildTexts() {
			n, length, err := c.read(text)
			if err != nil && (n != 0 || length != 0 || err != api.ErrText && err != api.ErrBound) || err == nil && (n < 1 || length < 1 || length > len(text)) {
				t.Error(c.name, text, n, length, err)
			}
		}
	}
}

// answers of all calls of the package.
func answers(w, l []int, text string, n int) []any {
	var out []any
	low, width, err := Interval(w, l)
	out = append(out, [2]api.Frac{low, width}, err)
	made, err := Encode(w, l)
	out = append(out, made, err)
	back, err := Decode(w, text, len(l))
	out = append(out, back, err)
	for _, c := range codes() {
		word, err := c.write(n)
		out = append(out, word, err)
		got, length, err := c.read(word + text)
		out = append(out, [2]int{got, length}, err)
	}
	return out
}

// P2: the same answers, however many ask at once.
func TestSideBySide(t *testing.T) {
	w, l := []int{7, 1, 0, 7, 3}, []int{3, 3, 0, 1, 4, 0, 0, 3}
	want := answers(w, l, "0110100111011", 777)
	for i := 1; i < len(want); i += 2 {
		if want[i] != nil {
			t.Error(i, want)
		}
	}
	var all sync.WaitGroup
	for range 16 {
		all.Go(func() {
			for range 30 {
				if got := answers(w, l, "0110100111011", 777); !reflect.DeepEqual(got, want) {
					t.Error(got, want)
				}
			}
		})
	}
	all.Wait()
}

// P3 and P4: what lies behind a list's length is left alone, what is handed over is only read.
func TestOnlyRead(t *testing.T) {
	memory := []int{3, 0, 2, -1, math.MaxInt, 0, 2, 2, 0, -1, math.MaxInt}
	kept := slices.Clone(memory)
	got := answers(memory[0:3], memory[5:9], "1100", 9)
	want := answers([]int{3, 0, 2}, []int{0, 2, 2, 0}, "1100", 9)
	if !reflect.DeepEqual(got, want) || want[1] != nil {
		t.Error(got, want)
	}
	if !slices.Equal(memory, kept) {
		t.Error(memory)
	}
	// What is behind the length of the weights is no symbol.
	if _, err := Encode(memory[0:1], []int{2}); !isFault(err, 0, api.ErrShape) {
		t.Error(err)
	}
}

// P4: what is answered is new memory.
func TestNewMemory(t *testing.T) {
	w, l := []int{1, 2, 4}, []int{1, 2, 2, 0}
	text, err := Encode(w, l)
	if err != nil {
		t.Fatal(err)
	}
	for range 3 {
		back, err := Decode(w, text, len(l))
		if !slices.Equal(back, l) || err != nil {
			t.Error(back, err)
		}
		for i := range back[:cap(back)] {
			back[:cap(back)][i] = -1
		}
	}
	if !slices.Equal(w, []int{1, 2, 4}) || !slices.Equal(l, []int{1, 2, 2, 0}) {
		t.Error(w, l)
	}
}
