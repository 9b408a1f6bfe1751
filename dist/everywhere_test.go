package dist

// P1 to P4, as far as they speak of package dist.

import (
	"math"
	"reflect"
	"slices"
	"sync"
	"testing"

	"demon/api"
	"demon/logs"
)

func wildNumbers() []int {
	return []int{math.MinInt, -api.MaxWeight, -1, 0, 1, 2, 15, 16, 17, api.MaxWeight - 1, api.MaxWeight, api.MaxWeight + 1, 1 << 62, math.MaxInt}
}

func wildLists() [][]int {
	out := [][]int{nil, {}, many(16, 0), many(16, 1), many(17, 0), many(16, math.MaxInt), many(16, math.MinInt), many(100000, 1)}
	for _, x := range wildNumbers() {
		out = append(out, []int{x})
		for _, y := range wildNumbers() {
			out = append(out, []int{x, y})
		}
	}
	return out
}

func checkLog(t *testing.T, a api.Log, err, bad error) {
	t.Helper()
	if bad != nil && err != bad || err != nil && !same(a, api.Log{}) || err == nil && logs.Valid(a) != nil {
		t.Error(a, err, bad)
	}
}

// P1 and P3: every call ends without a panic; with an error there is nothing else.
func TestWildLists(t *testing.T) {
	for _, p := range wildLists() {
		bad := Valid(p)
		a, err := Entropy(p)
		checkLog(t, a, err, bad)
		for _, q := range wildLists() {
			a, err := Divergence(p, q)
			checkLog(t, a, err, bad)
			f, err := Variation(p, q)
			if bad != nil && err != bad || (f == api.Frac{}) != (err != nil) {
				t.Error(p, q, f, err)
			}
			l, err := Merge(p, q)
			if bad != nil && err != bad || (len(l) == 0) != (err != nil) {
				t.Error(p, q, l, err)
			}
		}
	}
}

func TestWildTables(t *testing.T) {
	tables := [][][]int{nil, {}, make([][]int, 16), make([][]int, 100000), {nil, {}}}
	for _, p := range wildLists() {
		tables = append(tables, [][]int{p})
		for _, q := range wildLists() {
			tables = append(tables, [][]int{p, q})
		}
	}
	for _, x := range tables {
		bad := Table(x)
		for _, call := range []func([][]int) (api.Log, error){Joint, Given, Mutual} {
			a, err := call(x)
			checkLog(t, a, err, bad)
		}
		for _, call := range []func([][]int) ([]int, error){Rows, Columns} {
			if l, err := call(x); err != bad || (len(l) == 0) != (err != nil) {
				t.Error(x, l, err)
			}
		}
	}
}

// answers of all calls of the package.
func answers(p, q, to []int, x [][]int) []any {
	var out []any
	put := func(a any, err error) { out = append(out, a, err) }
	put(nil, Valid(p))
	put(nil, Table(x))
	for _, call := range []func([][]int) (api.Log, error){Joint, Given, Mutual} {
		a, err := call(x)
		put(a, err)
	}
	for _, call := range []func([][]int) ([]int, error){Rows, Columns} {
		l, err := call(x)
		put(l, err)
	}
	e, err := Entropy(p)
	put(e, err)
	d, err := Divergence(p, q)
	put(d, err)
	f, err := Variation(p, q)
	put(f, err)
	l, err := Merge(p, to)
	put(l, err)
	return out
}

// P2: the same answers, however many ask at once.
func TestSideBySide(t *testing.T) {
	p, q, to := []int{6, 10, 15, 0, 77}, []int{1, 2, 3, 4, 5}, []int{1, 0, 1, 4, 4}
	x := [][]int{{3, 5, 7}, {0, 11, 13}, {30, 2, 1}}
	want := answers(p, q, to, x)
	var all sync.WaitGroup
	for range 16 {
		all.Go(func() {
			for range 30 {
				if got := answers(p, q, to, x); !reflect.DeepEqual(got, want) {
					t.Error(got, want)
				}
			}
		})
	}
	all.Wait()
}

// P3 and P4: what lies behind a list's length is left alone, what is handed over is only read.
func TestOnlyRead(t *testing.T) {
	memory := []int{6, 10, 15, -1, math.MaxInt, 1, 2, 3, -1, math.MaxInt, 1, 0, 1, 99, 99}
	kept := slices.Clone(memory)
	p, q, to := memory[0:3], memory[5:8], memory[10:13]
	rows := [][]int{p, q, {math.MinInt}}
	x := rows[:2]
	got := answers(p, q, to, x)
	want := answers([]int{6, 10, 15}, []int{1, 2, 3}, []int{1, 0, 1}, [][]int{{6, 10, 15}, {1, 2, 3}})
	if !reflect.DeepEqual(got, want) {
		t.Error(got, want)
	}
	if !slices.Equal(memory, kept) || len(rows[2]) != 1 || &rows[0][0] != &memory[0] || &rows[1][0] != &memory[5] {
		t.Error(memory, rows)
	}
}

// P4: what is answered is new memory.
func TestNewMemory(t *testing.T) {
	one, two := []int{1, 2}, []int{0, 1}
	x := [][]int{{1, 2}}
	lists := []func() []int{
		func() []int { l, _ := Rows([][]int{{1}, {2}}); return l },
		func() []int { l, _ := Columns(x); return l },
		func() []int { l, _ := Merge(one, two); return l },
	}
	for i, call := range lists {
		first := call()
		for k := range first[:cap(first)] {
			first[:cap(first)][k] = -1
		}
		if !slices.Equal(call(), []int{1, 2}) {
			t.Error(i, call())
		}
	}
	if !slices.Equal(one, []int{1, 2}) || !slices.Equal(two, []int{0, 1}) || !slices.Equal(x[0], []int{1, 2}) {
		t.Error(one, two, x)
	}
	for i, call := range []func() (api.Log, error){
		func() (api.Log, error) { return Entropy(one) },
		func() (api.Log, error) { return Joint(x) },
		func() (api.Log, error) { return Given(x) },
	} {
		a := must(t)(call())
		for k := range a.L {
			a.L[k] = api.Term{}
		}
		a, err := call()
		if got := text(t, a, err); got != "-2/3 log 2 + log 3" {
			t.Error(i, got)
		}
	}
}
