package heat

// P1 to P4, as far as they speak of package heat.

import (
	"errors"
	"math"
	"reflect"
	"slices"
	"sync"
	"testing"

	"demon/api"
)

func wildNumbers() []int {
	return []int{math.MinInt, math.MinInt32, -64, -1, 0, 1, 2, 3, 4, 5, 63, 64, 999, 1000, 1001, 4095, 4096, 4097, 1 << 32, 1 << 62, math.MaxInt}
}

func wildProcesses() []Process {
	out := rightProcesses()
	for _, x := range wrongProcesses() {
		out = append(out, x.p)
	}
	for lists := range 8 {
		for steps := range 8 {
			for n := range 7 {
				out = append(out, Process{Weights: many(lists, many(n, 1)), Steps: many(steps, unit(n))})
				out = append(out, Process{Weights: many(lists, many(n, 1)), Steps: make([][][]int, steps)})
				out = append(out, Process{Weights: many(lists, many(n, 1)), Steps: many(steps, make([][]int, n))})
			}
		}
	}
	for _, a := range wildNumbers() {
		for _, b := range wildNumbers() {
			out = append(out, Process{Weights: [][]int{{a, b}}}, Process{Weights: [][]int{{1, a}, {b, 1}}, Steps: [][][]int{unit(2)}})
			out = append(out, withStep(still(2, 2), 1, [][]int{{1, a}, {b, 1}}), withStep(still(2, 1), 0, [][]int{{a, b}, {a, b}}))
		}
	}
	return out
}

func wildPaths() [][]int {
	out := [][]int{nil, {}, {0, 0, 0}, {0, 1, 0, 1, 0}, make([]int, 100000)}
	for _, n := range wildNumbers() {
		out = append(out, []int{n}, []int{0, n}, []int{n, 0, n}, many(5, n))
	}
	return out
}

// known: an error of those that the chapter names, bare or as a fault with a place.
func known(err error) bool {
	var f *api.Fault
	if errors.As(err, &f) {
		return err == error(f) && f.At >= 0 && (f.Err == api.ErrShape || f.Err == api.ErrKind)
	}
	return err == nil || err == api.ErrBound || err == api.ErrShape
}

// right: a fraction with no error, in its lowest terms; or nothing, with an error.
func right(f api.Frac, err error) bool {
	if err != nil {
		return f == (api.Frac{}) && known(err)
	}
	return f.Den > 0 && told(f, ratOf(f))
}

// P1 and P3: every call ends without a panic; with an error there is nothing else; a process' errors come first.
func TestWild(t *testing.T) {
	paths := wildPaths()
	for _, p := range wildProcesses() {
		bad := Valid(p)
		if f, err := Mean(p); !right(f, err) || !reflect.DeepEqual(err, bad) {
			t.Error(p, f, err)
		}
		for _, path := range paths {
			c, gain, err := Chance(p, path)
			r, same := Reverse(p, path)
			if !right(c, err) || !right(gain, err) || !right(r, same) || !reflect.DeepEqual(err, same) || bad != nil && !reflect.DeepEqual(err, bad) {
				t.Error(p, path, c, gain, err, r, same)
			}
		}
	}
}

func TestWildLegs(t *testing.T) {
	for _, a := range wildNumbers() {
		if l, err := Erase([]int{a, 1}); (l.Den == 0) != (err != nil) || !known(err) {
			t.Error(a, l, err)
		}
		for _, b := range wildNumbers() {
			for _, l := range [][]Leg{{leg(frac(a, b), frac(1, 1))}, {leg(frac(1, 1), frac(a, b))}, {leg(frac(a, b), frac(b, a)), leg(frac(b, a), frac(a, b))}, many(40, leg(frac(a, b), frac(a, b)))} {
				if work, entropy, err := Round(l); !right(work, err) || !right(entropy, err) {
					t.Error(l, work, entropy, err)
				}
			}
		}
	}
}

// answers of all calls of the package.
func answers(p Process, path []int, l []Leg, w []int) []any {
	out := []any{Valid(p)}
	c, gain, err := Chance(p, path)
	out = append(out, c, gain, err)
	f, err := Reverse(p, path)
	out = append(out, f, err)
	f, err = Mean(p)
	out = append(out, f, err)
	work, entropy, err := Round(l)
	out = append(out, work, entropy, err)
	a, err := Erase(w)
	return append(out, a, err)
}

func checkNoError(t *testing.T, l []any) {
	t.Helper()
	for _, x := range l {
		if _, is := x.(error); is {
			t.Error(l)
		}
	}
}

// P2: the same answers, however many ask at once.
func TestSideBySide(t *testing.T) {
	p, path := longProcess(), []int{0, 1, 1, 2, 3}
	l, w := []Leg{leg(frac(6, 5), frac(3, 1)), leg(frac(-2, 7), frac(1, 9))}, []int{3, 0, 5}
	want := answers(p, path, l, w)
	checkNoError(t, want)
	var all sync.WaitGroup
	for range 16 {
		all.Go(func() {
			for range 30 {
				if got := answers(p, path, l, w); !reflect.DeepEqual(got, want) {
					t.Error(got, want)
				}
			}
		})
	}
	all.Wait()
}

// P3 and P4: what lies behind a list's length is left alone, what is handed over is only read.
func TestOnlyRead(t *testing.T) {
	numbers := []int{1, 1, -1, 1, 3, 0, 0, 1, 9999, 1, 2, -5, 0, 1, 77, 3, 5, -8}
	legs := []Leg{leg(frac(6, 1), frac(3, 1)), leg(frac(-2, 1), frac(1, 1)), {}}
	lists := [][]int{numbers[0:2], numbers[3:5], {-1}, nil}
	rows := [][]int{numbers[6:8], numbers[9:11], {1, 1, 1}}
	steps := [][][]int{rows[:2], {{-1}}, nil}
	keptNumbers, keptLegs := slices.Clone(numbers), slices.Clone(legs)
	got := answers(Process{Weights: lists[:2], Steps: steps[:1]}, numbers[12:14], legs[:2], numbers[15:17])
	want := answers(small(), []int{0, 1}, slices.Clone(legs[:2]), []int{3, 5})
	checkNoError(t, want)
	if !reflect.DeepEqual(got, want) {
		t.Error(got, want)
	}
	if !slices.Equal(numbers, keptNumbers) || !slices.Equal(legs, keptLegs) {
		t.Error(numbers, legs)
	}
	if &lists[0][0] != &numbers[0] || &lists[1][0] != &numbers[3] || len(lists[2]) != 1 || lists[3] != nil {
		t.Error(lists)
	}
	if &rows[0][0] != &numbers[6] || &rows[1][0] != &numbers[9] || len(rows[2]) != 3 || &steps[0][0] != &rows[0] || len(steps[1]) != 1 || steps[2] != nil {
		t.Error(rows, steps)
	}
}

// P4: what is answered is new memory, and nothing is kept; an error that is changed by who got it is none of the next one's.
func TestNewMemory(t *testing.T) {
	wrong := withWeight(small(), 1, 1, 2)
	for range 3 {
		a, err := Erase([]int{3, 1})
		if !reflect.DeepEqual(a, api.Log{Den: 4, L: []api.Term{{Prime: 2, Coef: 8}, {Prime: 3, Coef: -3}}}) || err != nil {
			t.Error(a, err)
		}
		spoilt := a.L[:cap(a.L)]
		for i := range spoilt {
			spoilt[i] = api.Term{}
		}
		err = Valid(wrong)
		if !isError(err, api.ErrKind, 0) {
			t.Error(err)
		}
		*err.(*api.Fault) = api.Fault{At: 9}
	}
	// What was handed over may be changed between two calls.
	p, path := small(), []int{0, 1}
	before := answersOfPath(p, path)
	p.Weights[0][0], path[0] = 3, 1
	after := answersOfPath(p, path)
	if slices.Equal(before, after) || !slices.Equal(after, []any{frac(1, 6), frac(3, 1), nil, frac(1, 2), nil}) {
		t.Error(before, after)
	}
}
