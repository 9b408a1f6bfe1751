package heat

import (
	"errors"
	"math"
	"math/rand"
	"slices"
	"testing"

	"demon/api"
)

// P130

// small is two states and one step.
func small() Process {
	return Process{Weights: [][]int{{1, 1}, {1, 3}}, Steps: [][][]int{{{0, 1}, {1, 2}}}}
}

// unit is the chain of n states in which each one stays.
func unit(n int) [][]int {
	out := make([][]int, n)
	for i := range out {
		out[i] = make([]int, n)
		out[i][i] = 1
	}
	return out
}

// still is a process of so many steps in which nothing changes.
func still(n, steps int) Process {
	p := Process{Weights: [][]int{many(n, 1)}}
	for range steps {
		p.Weights = append(p.Weights, many(n, 1))
		p.Steps = append(p.Steps, unit(n))
	}
	return p
}

func rightProcesses() []Process {
	out := []Process{
		small(), longProcess(),
		{Weights: [][]int{{1}}},
		{Weights: [][]int{{1000}}, Steps: [][][]int{}},
		{Weights: [][]int{{1000, 1, 1000, 1}}},
		{Weights: [][]int{{7}, {1000}, {3}, {9}, {1}}, Steps: [][][]int{{{1}}, {{4096}}, {{17}}, {{2}}}},
		// More weights together than dist.Valid would have.
		{Weights: many(5, many(4, 1000)), Steps: many(4, afresh(many(4, 1000)))},
		// Rows of unlike sums.
		{Weights: [][]int{{5, 5}, {1, 2}}, Steps: [][][]int{{{1, 2}, {10, 20}}}},
		{Weights: [][]int{{5, 5}, {2, 1}}, Steps: [][][]int{{{3, 1}, {2, 2}}}},
		// Two states change, the third one is by itself.
		{Weights: [][]int{{1, 1, 1}, {1, 2, 9}}, Steps: [][][]int{{{0, 1, 0}, {2, 2, 0}, {0, 0, 4096}}}},
	}
	for n := 1; n <= 4; n++ {
		for steps := range 5 {
			out = append(out, still(n, steps))
		}
	}
	return out
}

type processCase struct {
	p   Process
	err error
	at  int // -1: the error is bare
}

func with(p Process, change func(p *Process)) Process {
	p = cloned(p)
	change(&p)
	return p
}

func withStep(p Process, t int, step [][]int) Process {
	return with(p, func(p *Process) { p.Steps[t] = step })
}

func withWeight(p Process, t, i, n int) Process {
	return with(p, func(p *Process) { p.Weights[t][i] = n })
}

func wrongWeights() []processCase {
	bound := []Process{
		{Weights: make([][]int, 6)},
		still(2, 5),
		{Weights: many(100000, []int{1})},
		{Weights: [][]int{many(5, 1)}},
		still(5, 2),
		{Weights: [][]int{many(100000, 1)}},
		// Bounds come ahead of shapes.
		{Weights: [][]int{{1, 1}, {}, many(5, 1)}},
		{Weights: [][]int{many(5, 0)}},
		{Weights: make([][]int, 6), Steps: make([][][]int, 9)},
		{Weights: [][]int{{0}, {1}, {1}, {1}, {1}, {1}}},
	}
	shape := []Process{
		{}, {Weights: [][]int{}}, {Steps: [][][]int{{{1}}}},
		{Weights: [][]int{{}}}, {Weights: make([][]int, 5), Steps: make([][][]int, 4)},
		with(still(2, 2), func(p *Process) { p.Weights[0] = nil }),
		with(still(2, 2), func(p *Process) { p.Weights[2] = nil }),
		with(still(2, 2), func(p *Process) { p.Weights[1] = []int{1} }),
		with(still(2, 2), func(p *Process) { p.Weights[2] = []int{1, 1, 1} }),
		with(still(2, 2), func(p *Process) { p.Weights[0] = []int{1, 1, 1} }),
		with(still(2, 2), func(p *Process) { p.Weights = p.Weights[:2] }),
		with(still(2, 2), func(p *Process) { p.Steps = p.Steps[:1] }),
		with(still(2, 4), func(p *Process) { p.Steps = append(p.Steps, unit(2)) }),
		with(still(2, 4), func(p *Process) { p.Steps = nil }),
		{Weights: [][]int{{1}}, Steps: make([][][]int, 100000)},
		{Weights: [][]int{{1}}, Steps: [][][]int{{{1}}}},
		// Ahead of what is wrong with steps.
		{Weights: [][]int{{1}, {0}}, Steps: [][][]int{{{4097}}}},
		{Weights: [][]int{{1}, {1001}}, Steps: [][][]int{make([][]int, 9)}},
		{Weights: [][]int{{1}, {1}, {1, 1}}, Steps: [][][]int{{{4097}}, unit(2)}},
		{Weights: [][]int{{0, 1}, {1, 1}}, Steps: [][][]int{unit(3)}},
	}
	for _, n := range []int{math.MinInt, -1000, -1, 0, 1001, 1 << 32, math.MaxInt} {
		for t := range 3 {
			for i := range 2 {
				shape = append(shape, withWeight(still(2, 2), t, i, n))
			}
		}
	}
	var out []processCase
	for _, p := range bound {
		out = append(out, processCase{p, api.ErrBound, -1})
	}
	for _, p := range shape {
		out = append(out, processCase{p, api.ErrShape, -1})
	}
	return out
}

func wrongSteps() []processCase {
	three, odd := still(3, 4), [][]int{{1, 1, 0}, {0, 1, 0}, {0, 0, 1}}
	great, empty := [][]int{{4096, 1, 0}, {0, 1, 0}, {0, 0, 1}}, [][]int{{1, 0, 0}, {0, 0, 0}, {0, 0, 1}}
	var out []processCase
	for t := range 4 {
		out = append(out,
			// chain.Valid's.
			processCase{withStep(three, t, nil), api.ErrShape, -1},
			processCase{withStep(three, t, make([][]int, 3)), api.ErrShape, -1},
			processCase{withStep(three, t, empty), api.ErrShape, -1},
			processCase{withStep(three, t, [][]int{{1, 0, 0}, {0, 1}, {0, 0, 1}}), api.ErrShape, -1},
			processCase{withStep(three, t, [][]int{{1, -1, 0}, {-1, 1, 0}, {0, 0, 1}}), api.ErrShape, -1},
			processCase{withStep(three, t, [][]int{{1, math.MinInt, 0}, {0, 1, 0}, {0, 0, 1}}), api.ErrShape, -1},
			processCase{withStep(three, t, great), api.ErrBound, -1},
			processCase{withStep(three, t, [][]int{{4097, 0, 0}, {0, 1, 0}, {0, 0, 1}}), api.ErrBound, -1},
			processCase{withStep(three, t, [][]int{{math.MaxInt, 1, 0}, {0, 1, 0}, {0, 0, 1}}), api.ErrBound, -1},
			processCase{withStep(three, t, unit(9)), api.ErrBound, -1},
			processCase{withStep(three, t, make([][]int, 100000)), api.ErrBound, -1},
			// Chains, but not of as many states.
			processCase{withStep(three, t, unit(1)), api.ErrShape, t},
			processCase{withStep(three, t, unit(2)), api.ErrShape, t},
			processCase{withStep(three, t, unit(4)), api.ErrShape, t},
			processCase{withStep(three, t, unit(8)), api.ErrShape, t},
			// Not as often one way as the other.
			processCase{withStep(three, t, odd), api.ErrKind, t},
			processCase{withStep(three, t, [][]int{{1, 0, 1}, {0, 1, 0}, {0, 0, 1}}), api.ErrKind, t},
			processCase{withStep(three, t, [][]int{{1, 0, 0}, {0, 1, 0}, {0, 1, 0}}), api.ErrKind, t},
			// The weights are kept, but one goes round.
			processCase{withStep(three, t, [][]int{{0, 1, 0}, {0, 0, 1}, {1, 0, 0}}), api.ErrKind, t},
			// The same numbers to and fro, but not by their rows' sums.
			processCase{withStep(three, t, [][]int{{1, 1, 0}, {1, 2, 0}, {0, 0, 1}}), api.ErrKind, t},
		)
	}
	return append(out,
		// The first that is so is told: chain.Valid's errors of all steps, then shapes, then kinds.
		processCase{withStep(withStep(three, 1, great), 2, empty), api.ErrBound, -1},
		processCase{withStep(withStep(three, 1, empty), 2, great), api.ErrShape, -1},
		processCase{withStep(withStep(three, 0, unit(2)), 3, great), api.ErrBound, -1},
		processCase{withStep(withStep(three, 0, odd), 3, empty), api.ErrShape, -1},
		processCase{withStep(withStep(three, 0, odd), 3, unit(4)), api.ErrShape, 3},
		processCase{withStep(withStep(three, 1, unit(4)), 2, unit(2)), api.ErrShape, 1},
		processCase{withStep(withStep(three, 1, unit(4)), 0, odd), api.ErrShape, 1},
		processCase{withStep(withStep(three, 3, odd), 2, odd), api.ErrKind, 2},
	)
}

func wrongProcesses() []processCase {
	out := append(wrongWeights(), wrongSteps()...)
	return append(out,
		processCase{withWeight(small(), 1, 1, 2), api.ErrKind, 0},
		// It keeps the weights ahead of it, not those behind it.
		processCase{Process{Weights: [][]int{{1, 3}, {1, 1}}, Steps: small().Steps}, api.ErrKind, 0},
		processCase{Process{Weights: [][]int{{1, 1}, {1, 3}, {1, 1}}, Steps: [][][]int{small().Steps[0], small().Steps[0]}}, api.ErrKind, 1},
		processCase{Process{Weights: [][]int{{1, 3}, {1, 3}, {1, 3}, {3, 1}}, Steps: many(3, small().Steps[0])}, api.ErrKind, 2},
		// It keeps the weights the other way round.
		processCase{Process{Weights: [][]int{{1, 1}, {2, 1}}, Steps: [][][]int{{{2, 2}, {1, 3}}}}, api.ErrKind, 0},
	)
}

// isError: the error is just that one, with its place.
func isError(err, want error, at int) bool {
	if want == nil || at < 0 {
		return err == want
	}
	var f *api.Fault
	return errors.As(err, &f) && err == error(f) && f.Err == want && f.At == at
}

func TestValid(t *testing.T) {
	for _, p := range rightProcesses() {
		if err := Valid(p); err != nil {
			t.Error(p, err)
		}
	}
	for i, x := range wrongProcesses() {
		if err := Valid(x.p); !isError(err, x.err, x.at) {
			t.Error(i, x, err)
		}
	}
}

// eachList of so many numbers from low to high.
func eachList(length, low, high int, visit func(l []int)) {
	eachPath(high-low+1, length, func(path []int) {
		l := slices.Clone(path)
		for i := range l {
			l[i] += low
		}
		visit(l)
	})
}

func checkKeeps(t *testing.T, p Process) bool {
	t.Helper()
	at := -1
	for i, step := range slices.Backward(p.Steps) {
		if !wantKeeps(step, p.Weights[i+1]) {
			at = i
		}
	}
	var want error
	if at >= 0 {
		want = api.ErrKind
	}
	if err := Valid(p); !isError(err, want, at) {
		t.Error(p, err, at)
	}
	return at < 0
}

func TestAllSmallSteps(t *testing.T) {
	right, wrong := 0, 0
	eachList(2, 1, 4, func(w []int) {
		eachList(4, 0, 4, func(l []int) {
			if sum(l[:2]) == 0 || sum(l[2:]) == 0 {
				return
			}
			for _, ahead := range [][]int{{1, 1}, {1, 4}} {
				if checkKeeps(t, Process{Weights: [][]int{ahead, w}, Steps: [][][]int{{l[:2], l[2:]}}}) {
					right++
				} else {
					wrong++
				}
			}
		})
	})
	if right < 1000 || wrong < 10000 {
		t.Error(right, wrong)
	}
}

func TestSomeSteps(t *testing.T) {
	r := rand.New(rand.NewSource(130))
	wrong := 0
	for _, p := range someProcesses(1301, 60) {
		if !checkKeeps(t, p) {
			t.Error(p)
		}
		// One weight of a step, or of a list, a little greater.
		for range 4 {
			q := cloned(p)
			if len(q.Steps) == 0 {
				continue
			}
			at, n := r.Intn(len(q.Steps)), len(q.Weights[0])
			row := q.Steps[at][r.Intn(n)]
			if r.Intn(2) == 0 && sum(row) < api.MaxWeight {
				row[r.Intn(n)]++
			} else if i := r.Intn(n); q.Weights[at+1][i] < 1000 {
				q.Weights[at+1][i]++
			}
			if !checkKeeps(t, q) {
				wrong++
			}
		}
	}
	if wrong < 1000 {
		t.Error(wrong)
	}
}
