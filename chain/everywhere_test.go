package chain

// P1 to P4, as far as they speak of package chain.

import (
	"math"
	"reflect"
	"slices"
	"sync"
	"testing"

	"demon/api"
	"demon/logs"
)

func wildNumbers() []int {
	return []int{math.MinInt, -api.MaxWeight, -1, 0, 1, 2, 7, 8, 9, 200, 201, api.MaxWeight - 1, api.MaxWeight, api.MaxWeight + 1, 1 << 62, math.MaxInt}
}

func wildLists() [][]int {
	out := [][]int{nil, {}, make([]int, 16), make([]int, 17), slices.Repeat([]int{math.MaxInt}, 8), slices.Repeat([]int{1}, 100000)}
	for _, x := range wildNumbers() {
		out = append(out, []int{x})
		for _, y := range wildNumbers() {
			out = append(out, []int{x, y})
		}
	}
	return out
}

func wildChains() [][][]int {
	out := [][][]int{nil, {}, {nil}, {nil, {}}, make([][]int, 8), make([][]int, 100000), square(8, 0), square(8, 1), square(8, 512), square(8, math.MaxInt), square(9, 1), rare(1024, 4092)}
	for i, p := range wildLists() {
		out = append(out, [][]int{p})
		for k, q := range wildLists() {
			if (i+k)%5 == 0 {
				out = append(out, [][]int{p, q})
			}
		}
	}
	return out
}

// known: is the error one that the chapter names?
func known(err error) bool {
	return err == nil || err == api.ErrBound || err == api.ErrShape || err == api.ErrNone
}

// P1 and P3: every call ends without a panic; with an error there is nothing else, and Valid's come first.
func TestWild(t *testing.T) {
	for _, c := range wildChains() {
		bad := Valid(c)
		check := func(name string, nothing bool, err error) {
			if bad != nil && err != bad || nothing != (err != nil) || !known(err) {
				t.Error(name, c, nothing, err, bad)
			}
		}
		l, err := Classes(c)
		check("Classes", len(l) == 0, err)
		l, err = Closed(c)
		check("Closed", len(l) == 0, err)
		f, err := Stationary(c)
		check("Stationary", len(f) == 0, err)
		is, err := Reversible(c)
		check("Reversible", err != nil && !is, err)
		a, err := Rate(c)
		check("Rate", sameLog(a, api.Log{}), err)
		if err == nil && logs.Valid(a) != nil {
			t.Error(c, a)
		}
		for _, x := range wildNumbers() {
			n, err := Period(c, x)
			check("Period", err != nil && n == 0, err)
			f, err := Hitting(c, x)
			check("Hitting", len(f) == 0, err)
			g, err := Return(c, x)
			check("Return", g == api.Frac{}, err)
			f, err = After(c, []int{1, 2}, x)
			check("After", len(f) == 0, err)
		}
	}
	for _, w := range wildLists() {
		for _, n := range wildNumbers() {
			if f, err := After(square(2, 3), w, n); (len(f) == 0) != (err != nil) || !known(err) {
				t.Error(w, n, f, err)
			}
		}
	}
}

// answers of all calls of the package.
func answers(c [][]int, w []int) []any {
	var out []any
	put := func(a any, err error) { out = append(out, a, err) }
	put(nil, Valid(c))
	a, err := Classes(c)
	put(a, err)
	a, err = Closed(c)
	put(a, err)
	f, err := Stationary(c)
	put(f, err)
	is, err := Reversible(c)
	put(is, err)
	r, err := Rate(c)
	put(r, err)
	for i := range c {
		n, err := Period(c, i)
		put(n, err)
		f, err := Hitting(c, i)
		put(f, err)
		g, err := Return(c, i)
		put(g, err)
		f, err = After(c, w, i)
		put(f, err)
	}
	return out
}

// P2: the same answers, however many ask at once.
func TestSideBySide(t *testing.T) {
	c, w := [][]int{{0, 5, 7, 0}, {1, 0, 0, 2}, {3, 3, 3, 3}, {0, 1, 1, 0}}, []int{1, 2, 0, 4}
	want := answers(c, w)
	var all sync.WaitGroup
	for range 16 {
		all.Go(func() {
			for range 30 {
				if got := answers(c, w); !reflect.DeepEqual(got, want) {
					t.Error(got, want)
				}
			}
		})
	}
	all.Wait()
}

// P3 and P4: what lies behind a list's length is left alone, what is handed over is only read.
func TestOnlyRead(t *testing.T) {
	memory := []int{1, 2, 3, -1, math.MaxInt, 4, 0, 1, -1, math.MaxInt, 0, 5, 1, -1, math.MaxInt, 7, 0, 2, -1, math.MaxInt}
	kept := slices.Clone(memory)
	rows := [][]int{memory[0:3], memory[5:8], memory[10:13], {math.MinInt}}
	got := answers(rows[:3], memory[15:18])
	want := answers([][]int{{1, 2, 3}, {4, 0, 1}, {0, 5, 1}}, []int{7, 0, 2})
	if !reflect.DeepEqual(got, want) {
		t.Error(got, want)
	}
	if !slices.Equal(memory, kept) || !slices.Equal(rows[3], []int{math.MinInt}) || &rows[0][0] != &memory[0] || &rows[2][0] != &memory[10] {
		t.Error(memory, rows)
	}
}

// P4: what is answered is new memory.
func TestNewMemory(t *testing.T) {
	c, w := [][]int{{1, 1, 0}, {1, 0, 1}, {0, 2, 2}}, []int{1, 2, 3}
	want := answers(c, w)
	for _, a := range answers(c, w) {
		switch x := a.(type) {
		case []int:
			for i := range x[:cap(x)] {
				x[:cap(x)][i] = -1
			}
		case []api.Frac:
			for i := range x[:cap(x)] {
				x[:cap(x)][i] = api.Frac{Num: -1}
			}
		case api.Log:
			for i := range x.L[:cap(x.L)] {
				x.L[:cap(x.L)][i] = api.Term{}
			}
		}
	}
	if got := answers(c, w); !reflect.DeepEqual(got, want) {
		t.Error(got, want)
	}
	if !slices.Equal(c[0], []int{1, 1, 0}) || !slices.Equal(c[1], []int{1, 0, 1}) || !slices.Equal(c[2], []int{0, 2, 2}) || !slices.Equal(w, []int{1, 2, 3}) {
		t.Error(c, w)
	}
}
