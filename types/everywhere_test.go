package types

// P1 to P4, as far as they speak of package types.

import (
	"math"
	"reflect"
	"slices"
	"sync"
	"testing"

	"demon/api"
	"demon/dist"
)

func wildNumbers() []int {
	return []int{math.MinInt, -1 << 32, -21, -1, 0, 1, 2, 6, 7, 19, 20, 21, 4096, 4097, 1 << 32, 1 << 62, math.MaxInt}
}

func wildLists() [][]int {
	out := [][]int{nil, {}, many(6, 0), many(6, 1), many(7, 0), many(6, math.MaxInt), many(6, math.MinInt), many(16, 1), many(17, 0), many(100000, 1)}
	for _, x := range wildNumbers() {
		out = append(out, []int{x})
		for _, y := range wildNumbers() {
			out = append(out, []int{x, y})
		}
	}
	return out
}

// P1 and P3: every call ends without a panic; with an error there is nothing else.
func TestWildLists(t *testing.T) {
	for _, p := range wildLists() {
		size, bad := Size(p)
		if (size == 0) != (bad != nil) {
			t.Error(p, size, bad)
		}
		for _, q := range wildLists() {
			f, err := Chance(p, q)
			if bad != nil && err != bad || (f.Den == 0) != (err != nil) || err != nil && f != (api.Frac{}) {
				t.Error(p, q, f, err)
			}
		}
	}
}

func TestWildSets(t *testing.T) {
	sets := [][][]int{nil, {}, make([][]int, 400), make([][]int, 401), make([][]int, 100000), wildLists()}
	for _, p := range wildLists() {
		sets = append(sets, [][]int{p}, [][]int{{1, 1}, p})
	}
	for _, n := range wildNumbers() {
		for _, q := range wildLists() {
			for _, set := range sets {
				k, err := Nearest(n, q, set)
				switch {
				case n < 1 || n > 20 || len(set) > 400:
					if k != 0 || err != api.ErrBound {
						t.Error(n, q, len(set), k, err)
					}
				case dist.Valid(q) != nil:
					if k != 0 || err != dist.Valid(q) {
						t.Error(n, q, len(set), k, err)
					}
				case err != nil:
					if f, ok := err.(*api.Fault); k != 0 || !ok || f.Err != api.ErrShape || f.At < 0 || f.At >= len(set) {
						t.Error(n, q, len(set), k, err)
					}
				case k < -1 || k >= len(set):
					t.Error(n, q, len(set), k)
				}
			}
		}
	}
}

// answers of all calls of the package.
func answers(n, k int, p, q []int, set [][]int) []any {
	count, err := Count(n, k)
	out := []any{count, err}
	all, err := All(n, k)
	out = append(out, all, err)
	size, err := Size(p)
	out = append(out, size, err)
	f, err := Chance(p, q)
	out = append(out, f, err)
	nearest, err := Nearest(n, q, set)
	return append(out, nearest, err)
}

// P2: the same answers, however many ask at once.
func TestSideBySide(t *testing.T) {
	p, q, set := []int{1, 4, 3}, []int{2, 0, 5}, [][]int{{8, 1, 0}, {3, 0, 6}, {2, 0, 7}}
	want := answers(9, 3, p, q, set)
	for i := 1; i < len(want); i += 2 {
		if want[i] != nil {
			t.Error(i, want)
		}
	}
	var all sync.WaitGroup
	for range 16 {
		all.Go(func() {
			for range 30 {
				if got := answers(9, 3, p, q, set); !reflect.DeepEqual(got, want) {
					t.Error(got, want)
				}
			}
		})
	}
	all.Wait()
}

// P3 and P4: what lies behind a list's length is left alone, what is handed over is only read.
func TestOnlyRead(t *testing.T) {
	memory := []int{1, 4, 4, -1, math.MaxInt, 2, 1, 5, -1, math.MaxInt, 3, 1, 5, 99, 99}
	kept := slices.Clone(memory)
	p, q, other := memory[0:3], memory[5:8], memory[10:13]
	rows := [][]int{p, other, {math.MinInt}}
	got := answers(9, 3, p, q, rows[:2])
	want := answers(9, 3, []int{1, 4, 4}, []int{2, 1, 5}, [][]int{{1, 4, 4}, {3, 1, 5}})
	if !reflect.DeepEqual(got, want) || want[8] != 1 {
		t.Error(got, want)
	}
	if !slices.Equal(memory, kept) || len(rows[2]) != 1 || &rows[0][0] != &memory[0] || &rows[1][0] != &memory[10] {
		t.Error(memory, rows)
	}
}

// P4: what is answered is new memory, no two lists of it share any, and nothing is kept.
func TestNewMemory(t *testing.T) {
	want := typesOf(allRows(4, 3), 3)
	for range 3 {
		l, err := All(4, 3)
		if !slices.EqualFunc(l, want, slices.Equal) || err != nil {
			t.Error(l, err)
		}
		for i := range l {
			for k := range l[i][:cap(l[i])] {
				l[i][:cap(l[i])][k] = -1
			}
			if !slices.EqualFunc(l[i+1:], want[i+1:], slices.Equal) {
				t.Error(i, l)
			}
		}
		for i := range l[:cap(l)] {
			l[:cap(l)][i] = nil
		}
	}
}

// Errors of one call are not those of another one: a place that is written over shows nowhere else.
func TestNewFaults(t *testing.T) {
	for range 2 {
		_, err := Nearest(2, []int{1, 1}, [][]int{{1, 1}, {2, 1}})
		if !isFault(err, 1) {
			t.Error(err)
			continue
		}
		err.(*api.Fault).At = 7
	}
}
