package channel

// P1 to P4, as far as they speak of package channel.

import (
	"math"
	"reflect"
	"slices"
	"sync"
	"testing"

	"demon/api"
	"demon/logs"
)

func wildNumbers() []int {
	return []int{math.MinInt, -256, -1, 0, 1, 2, 16, 17, 255, 256, 257, 4095, 4096, 4097, 1 << 62, math.MaxInt}
}

func wildLists() [][]int {
	out := [][]int{nil, {}, many(16, 0), many(16, 1), many(17, 0), many(16, math.MaxInt), many(16, math.MinInt), many(100000, 1)}
	for _, x := range wildNumbers() {
		out = append(out, []int{x})
		for _, y := range wildNumbers() {
			out = append(out, []int{x, y})
		}
	}
	return out
}

func wildChannels() [][][]int {
	out := [][][]int{nil, {}, {nil, {}}, make([][]int, 16), make([][]int, 100000), rowsOf(16, many(16, 16)), sixteen(), pairs(), far()}
	for _, w := range wildLists() {
		out = append(out, [][]int{w}, [][]int{{1, 1}, w}, [][]int{w, {1}})
	}
	return out
}

func checkLog(t *testing.T, a api.Log, err error, what ...any) {
	t.Helper()
	if err != nil && !sameLog(a, api.Log{}) || err == nil && logs.Valid(a) != nil {
		t.Error(a, err, what)
	}
}

// P1 and P3: every call ends without a panic; with an error there is nothing else; a channel's errors come first.
func TestWild(t *testing.T) {
	for _, c := range wildChannels() {
		bad := Valid(c)
		even, err := Even(c)
		if err != bad || err != nil && even {
			t.Error(c, even, err)
		}
		a, err := Capacity(c)
		checkLog(t, a, err, c)
		if bad != nil && err != bad {
			t.Error(c, err, bad)
		}
		for _, p := range wildLists() {
			checkWildPair(t, p, c, bad)
		}
	}
}

func checkWildPair(t *testing.T, p []int, c [][]int, bad error) {
	t.Helper()
	table, err := Table(p, c)
	if bad != nil && err != bad || (len(table) == 0) != (err != nil) {
		t.Error(p, c, table, err)
	}
	a, through := Through(p, c)
	checkLog(t, a, through, p, c)
	l, f, guess := Guess(p, c)
	if through != err || guess != err || (len(l) == 0) != (err != nil) || (f == api.Frac{}) != (err != nil) {
		t.Error(p, c, through, guess, l, f, err)
	}
	a, at, err := Above(c, p)
	checkLog(t, a, err, p, c)
	if bad != nil && err != bad || at < 0 || at > 0 && (err != nil || at >= len(c)) {
		t.Error(p, c, at, err)
	}
}

func TestWildBehind(t *testing.T) {
	all := wildChannels()
	for _, a := range all {
		bad := Valid(a)
		for _, b := range all {
			c, err := Behind(a, b)
			if bad != nil && err != bad || (len(c) == 0) != (err != nil) || err == nil && Valid(c) != nil {
				t.Error(a, b, c, err)
			}
		}
	}
}

// answers of all calls of the package.
func answers(p, q []int, c, d [][]int) []any {
	table, err := Table(p, c)
	out := []any{Valid(c), table, err}
	through, err := Through(p, c)
	out = append(out, through, err)
	above, at, err := Above(c, q)
	out = append(out, above, at, err)
	even, err := Even(d)
	out = append(out, even, err)
	capacity, err := Capacity(d)
	out = append(out, capacity, err)
	both, err := Behind(c, d)
	out = append(out, both, err)
	guesses, f, err := Guess(p, c)
	return append(out, guesses, f, err)
}

// P2: the same answers, however many ask at once.
func TestSideBySide(t *testing.T) {
	p, q := []int{3, 2}, []int{2, 3, 5}
	c, d := [][]int{{1, 2, 5}, {4, 0, 4}}, [][]int{{3, 1, 2}, {2, 3, 1}, {1, 2, 3}}
	want := answers(p, q, c, d)
	for _, x := range want {
		if _, is := x.(error); is {
			t.Error(want)
		}
	}
	var all sync.WaitGroup
	for range 16 {
		all.Go(func() {
			for range 30 {
				if got := answers(p, q, c, d); !reflect.DeepEqual(got, want) {
					t.Error(got, want)
				}
			}
		})
	}
	all.Wait()
}

// P3 and P4: what lies behind a list's length is left alone, what is handed over is only read. (Rows that fall would show that they were sorted in place.)
func TestOnlyRead(t *testing.T) {
	memory := []int{3, 2, -1, math.MaxInt, 5, 3, -1, math.MaxInt, 6, 2, 99, 99, 1, 3, -7, 4, 1}
	kept := slices.Clone(memory)
	p, q := memory[0:2], memory[4:6]
	rows := [][]int{memory[8:10], memory[12:14], {math.MinInt}, nil}
	got := answers(p, q, rows[:2], rows[:2])
	clean := [][]int{{6, 2}, {1, 3}}
	if want := answers([]int{3, 2}, []int{5, 3}, clean, clean); !reflect.DeepEqual(got, want) {
		t.Error(got, want)
	}
	if !slices.Equal(memory, kept) || &rows[0][0] != &memory[8] || &rows[1][0] != &memory[12] || len(rows[2]) != 1 || rows[3] != nil {
		t.Error(memory, rows)
	}
}

// spoil writes over all of a table's memory, row by row; want is what the rows behind must still be.
func spoil(t *testing.T, table, want [][]int) {
	t.Helper()
	if !sameTable(table, want) {
		t.Error(table, want)
	}
	for i, row := range table {
		row = row[:cap(row)]
		for k := range row {
			row[k] = -1
		}
		if !sameTable(table[i+1:], want[i+1:]) {
			t.Error(i, table)
		}
	}
	table = table[:cap(table)]
	for i := range table {
		table[i] = nil
	}
}

// P4: what is answered is new memory, no two lists of it share any, and nothing is kept.
func TestNewMemory(t *testing.T) {
	c, one := [][]int{{3, 1}, {1, 3}}, clearOne(2)
	p := []int{1, 1}
	for range 3 {
		table, _ := Table(p, c)
		spoil(t, table, [][]int{{3, 1}, {1, 3}})
		both, _ := Behind(c, one)
		spoil(t, both, [][]int{{3, 1}, {1, 3}})
		both, _ = Behind(one, c)
		spoil(t, both, [][]int{{3, 1}, {1, 3}})
		l, _, _ := Guess(p, c)
		spoil(t, [][]int{l}, [][]int{{0, 1}})
		for i, call := range []func() (api.Log, error){
			func() (api.Log, error) { return Through(p, c) },
			func() (api.Log, error) { return Capacity(c) },
			func() (api.Log, error) { a, _, err := Above(c, p); return a, err },
		} {
			a, err := call()
			if got := text(t, a, err); got != "-log 2 + 3/4 log 3" {
				t.Error(i, got)
			}
			for k := range a.L {
				a.L[k] = api.Term{}
			}
		}
	}
	if !sameTable(c, [][]int{{3, 1}, {1, 3}}) || !sameTable(one, clearOne(2)) || !slices.Equal(p, []int{1, 1}) {
		t.Error(c, one, p)
	}
}
