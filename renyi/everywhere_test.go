package renyi

// P1 to P4, as far as they speak of package renyi.

import (
	"errors"
	"math"
	"reflect"
	"slices"
	"sync"
	"testing"

	"demon/api"
	"demon/logs"
)

func wildNumbers() []int {
	return []int{math.MinInt, math.MinInt32, -17, -1, 0, 1, 2, 3, 7, 15, 16, 17, 64, 65, 4095, 4096, 4097, 1000000, 1 << 32, 1 << 62, math.MaxInt}
}

func wildLists() [][]int {
	out := [][]int{nil, {}, make([]int, 100000)}
	for _, a := range wildNumbers() {
		for _, n := range []int{1, 2, 3, 15, 16, 17, 4001} {
			out = append(out, many(n, a))
		}
		for _, b := range wildNumbers() {
			out = append(out, []int{a, b}, []int{a, 1, b})
		}
	}
	return out
}

func wildFamilies() []Family {
	var out []Family
	for _, c := range wrongFamilies() {
		out = append(out, c.f)
	}
	out = append(out, rightFamilies()...)
	for _, m := range wildNumbers() {
		out = append(out, Family{M: m}, family(m, nil), family(m, make([][]int, 100000)...), family(m, many(100000, 0)))
		for _, a := range wildNumbers() {
			out = append(out, family(m, []int{a}), family(m, []int{0, a}, []int{a, 0}), family(m, []int{a, a, 1}), family(m, many(64, many(16, a))...))
		}
	}
	return out
}

// known: an error of those that the chapter names, bare.
func known(err error, names ...error) bool {
	var f *api.Fault
	if errors.As(err, &f) {
		return false
	}
	return slices.Contains(names, err)
}

// P1 and P3: every call ends without a panic; with an error there is nothing else.
func TestWildLists(t *testing.T) {
	for _, w := range wildLists() {
		for i, call := range []func([]int) (api.Log, error){Collision, Least, Support} {
			a, err := call(w)
			if !known(err, nil, api.ErrBound, api.ErrShape) || err != nil && !sameLog(a, api.Log{}) || err == nil && logs.Valid(a) != nil {
				t.Error(i, len(w), a, err)
			}
		}
		f, err := Guesses(w)
		if !known(err, nil, api.ErrBound, api.ErrShape) || (f == api.Frac{}) != (err != nil) {
			t.Error(len(w), f, err)
		}
	}
}

func TestWildFamilies(t *testing.T) {
	lists := wildLists()
	for _, f := range wildFamilies() {
		bad := Valid(f)
		if !known(bad, nil, api.ErrBound, api.ErrShape) {
			t.Error(f.M, len(f.L), bad)
		}
		if is, err := Universal(f); err != bad || err != nil && is {
			t.Error(f.M, len(f.L), is, err)
		}
		for _, w := range lists {
			x, err := Far(f, w)
			if bad != nil && err != bad || !known(err, nil, api.ErrBound, api.ErrShape) || (x == api.Frac{}) != (err != nil) {
				t.Error(f.M, len(f.L), len(w), x, err)
			}
		}
	}
}

func TestWildLinear(t *testing.T) {
	for _, p := range append(wildNumbers(), 5, 49) {
		for _, most := range wildNumbers() {
			f, err := Linear(p, most)
			if !known(err, nil, api.ErrKind, api.ErrBound) || err != nil && !sameFamily(f, Family{}) || err == nil && Valid(f) != nil {
				t.Error(p, most, f, err)
			}
		}
	}
}

// given to all calls of the package.
type given struct {
	w       []int
	f       Family
	p, most int
	by      []int
}

func right() given {
	return given{[]int{1, 0, 3, 2}, family(2, []int{0, 1, 1}, []int{0, 0, 1}), 2, 3, []int{1, 1, 2}}
}

func answers(g given) []any {
	var out []any
	for _, call := range []func([]int) (api.Log, error){Collision, Least, Support} {
		a, err := call(g.w)
		out = append(out, a, err)
	}
	guesses, err := Guesses(g.w)
	out = append(out, guesses, err, Valid(g.f))
	is, err := Universal(g.f)
	out = append(out, is, err)
	linear, err := Linear(g.p, g.most)
	out = append(out, linear, err)
	far, err := Far(g.f, g.by)
	return append(out, far, err)
}

func logIn(den int, l ...int) api.Log {
	a := api.Log{Den: den}
	for term := range slices.Chunk(l, 2) {
		a.L = append(a.L, api.Term{Prime: term[0], Coef: term[1]})
	}
	return a
}

// wantAnswers to what is right.
func wantAnswers() []any {
	linear := family(2, []int{0, 0, 0}, []int{0, 1, 0}, []int{0, 0, 1}, []int{0, 1, 1})
	return []any{logIn(1, 2, 1, 3, 2, 7, -1), nil, logIn(1, 2, 1), nil, logIn(1, 3, 1), nil, frac(5, 3), nil, nil, true, nil, linear, nil, frac(1, 8), nil}
}

// P2: the same answers, however many ask at once, and again and again.
func TestSideBySide(t *testing.T) {
	g := right()
	var all sync.WaitGroup
	for range 16 {
		all.Go(func() {
			for range 100 {
				if got := answers(g); !reflect.DeepEqual(got, wantAnswers()) {
					t.Error(got)
					return
				}
			}
		})
	}
	all.Wait()
}

// P3 and P4: what lies behind a list's length is left alone, what is handed over is only read.
func TestOnlyRead(t *testing.T) {
	numbers := []int{1, 0, 3, 2, -1, 0, 1, 1, -2, 0, 0, 1, -3, 1, 1, 2, -4}
	kept := slices.Clone(numbers)
	rows := [][]int{numbers[5:8], numbers[9:12], {7}, nil}
	g := right()
	g.w, g.f.L, g.by = numbers[0:4], rows[:2], numbers[13:16]
	if got := answers(g); !reflect.DeepEqual(got, wantAnswers()) {
		t.Error(got)
	}
	if !slices.Equal(numbers, kept) {
		t.Error(numbers)
	}
	if len(rows[0]) != 3 || &rows[0][0] != &numbers[5] || len(rows[1]) != 3 || &rows[1][0] != &numbers[9] || len(rows[2]) != 1 || rows[3] != nil {
		t.Error(rows)
	}
}

// spoil all that is seen of a list's memory.
func spoil[T any](l []T) {
	var zero T
	l = l[:cap(l)]
	for i := range l {
		l[i] = zero
	}
}

// P4: what is answered is new memory, no two lists of it share any, and nothing is kept.
func TestNewMemory(t *testing.T) {
	g := right()
	for range 3 {
		for _, call := range []func([]int) (api.Log, error){Collision, Least, Support} {
			a, _ := call(g.w)
			spoil(a.L)
		}
		linear, _ := Linear(g.p, g.most)
		spoil(linear.L[1])
		if !slices.Equal(linear.L[0], []int{0, 0, 0}) || !slices.Equal(linear.L[2], []int{0, 0, 1}) || !slices.Equal(linear.L[3], []int{0, 1, 1}) {
			t.Error(linear)
		}
		for i := range linear.L[3] {
			linear.L[3][i] = 9
		}
		if !slices.Equal(linear.L[2], []int{0, 0, 1}) {
			t.Error(linear)
		}
		spoil(linear.L)
		if got := answers(g); !reflect.DeepEqual(g, right()) || !reflect.DeepEqual(got, wantAnswers()) {
			t.Error(g, got)
		}
	}
	// What was handed over may be changed between two calls.
	g.w[1], g.w[3], g.f.L[0][2], g.f.L[1], g.by[0], g.most = 2, 0, 0, []int{1, 1, 1}, 4, 1
	want := []any{logIn(1, 2, 1, 3, 2, 7, -1), nil, logIn(1, 2, 1), nil, logIn(1, 3, 1), nil, frac(5, 3), nil, nil, false, nil, family(2, []int{0}, []int{0}, []int{0}, []int{0}), nil, frac(3, 7), nil}
	if got := answers(g); !reflect.DeepEqual(got, want) {
		t.Error(got)
	}
}
