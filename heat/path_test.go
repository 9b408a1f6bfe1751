package heat

import (
	"math"
	"math/big"
	"math/rand"
	"slices"
	"testing"

	"demon/api"
)

// P131 and P132

func TestPaths(t *testing.T) {
	three := Process{
		Weights: [][]int{{1, 2, 3}, {2, 2, 2}, {6, 3, 1}},
		Steps:   [][][]int{{{0, 1, 1}, {1, 0, 1}, {2, 2, 0}}, {{2, 1, 0}, {2, 1, 0}, {0, 0, 7}}},
	}
	for _, x := range []struct {
		p                  Process
		path               []int
		chance, gain, back api.Frac
	}{
		{small(), []int{0, 0}, frac(0, 1), frac(1, 1), frac(0, 1)},
		{small(), []int{0, 1}, frac(1, 2), frac(1, 1), frac(1, 4)},
		{small(), []int{1, 0}, frac(1, 6), frac(3, 1), frac(1, 4)},
		{small(), []int{1, 1}, frac(1, 3), frac(3, 1), frac(1, 2)},
		// Without a step the weights are all there is.
		{Process{Weights: [][]int{{2, 4, 6}}}, []int{1}, frac(1, 3), frac(1, 1), frac(1, 3)},
		{Process{Weights: [][]int{{9}}}, []int{0}, frac(1, 1), frac(1, 1), frac(1, 1)},
		{Process{Weights: [][]int{{4}, {6}}, Steps: [][][]int{{{5}}}}, []int{0, 0}, frac(1, 1), frac(3, 2), frac(1, 1)},
		{three, []int{0, 1, 0}, frac(1, 18), frac(3, 1), frac(1, 10)},
		{three, []int{2, 0, 1}, frac(1, 12), frac(2, 1), frac(1, 10)},
		{three, []int{2, 2, 2}, frac(0, 1), frac(1, 3), frac(0, 1)},
		// A path without a chance has a gain all the same.
		{three, []int{1, 2, 0}, frac(0, 1), frac(1, 2), frac(0, 1)},
		{three, []int{1, 2, 2}, frac(1, 6), frac(1, 2), frac(1, 20)},
	} {
		c, gain, err := Chance(x.p, x.path)
		if c != x.chance || gain != x.gain || err != nil {
			t.Error(x, c, gain, err)
		}
		if back, err := Reverse(x.p, x.path); back != x.back || err != nil {
			t.Error(x, back, err)
		}
	}
}

// checkRefused: both calls answer the error, and nothing else.
func checkRefused(t *testing.T, p Process, path []int, want error, at int) {
	t.Helper()
	c, gain, err := Chance(p, path)
	if c != (api.Frac{}) || gain != (api.Frac{}) || !isError(err, want, at) {
		t.Error(p, path, c, gain, err)
	}
	if back, err := Reverse(p, path); back != (api.Frac{}) || !isError(err, want, at) {
		t.Error(p, path, back, err)
	}
}

func TestPathsRefuse(t *testing.T) {
	for _, x := range wrongProcesses() {
		for _, path := range [][]int{nil, {0, 0}, {0, 0, 0, 0, 0}, {-1}} {
			checkRefused(t, x.p, path, x.err, x.at)
		}
	}
	three := still(3, 4)
	for length := range 12 {
		if length != 5 {
			checkRefused(t, three, make([]int, length), api.ErrShape, length)
			// The length comes ahead of what is no state.
			checkRefused(t, three, many(length, -1), api.ErrShape, length)
			checkRefused(t, three, many(length, 3), api.ErrShape, length)
		}
	}
	checkRefused(t, three, make([]int, 100000), api.ErrShape, 100000)
	checkRefused(t, Process{Weights: [][]int{{1}}}, nil, api.ErrShape, 0)
	checkRefused(t, Process{Weights: [][]int{{1}}}, []int{0, 0}, api.ErrShape, 2)
	for _, state := range []int{math.MinInt, -1, 3, 4, 64, math.MaxInt} {
		for at := range 5 {
			path := []int{0, 1, 2, 1, 0}
			path[at] = state
			checkRefused(t, three, path, api.ErrShape, at)
			// Only the first one is told.
			for later := at + 1; later < 5; later++ {
				path[later] = -7
				checkRefused(t, three, path, api.ErrShape, at)
			}
		}
	}
}

// checkPaths of a process, all of them; the chances of all, to and fro, are together 1.
func checkPaths(t *testing.T, p Process) {
	t.Helper()
	there, back := new(big.Rat), new(big.Rat)
	eachPath(len(p.Weights[0]), len(p.Weights), func(path []int) {
		c, gain, err := Chance(p, path)
		if !told(c, wantChance(p, path)) || !told(gain, wantGain(p, path)) || err != nil {
			t.Fatal(p, path, c, gain, err)
		}
		r, err := Reverse(p, path)
		if !told(r, wantReverse(p, path)) || err != nil {
			t.Fatal(p, path, r, err)
		}
		there.Add(there, ratOf(c))
		back.Add(back, ratOf(r))
	})
	if there.Cmp(rat(1, 1)) != 0 || back.Cmp(rat(1, 1)) != 0 {
		t.Error(p, there, back)
	}
}

func TestAllPaths(t *testing.T) {
	for _, p := range rightProcesses() {
		checkPaths(t, p)
	}
	for _, p := range someProcesses(131, 12) {
		checkPaths(t, p)
	}
}

// As great as the numbers come, they are told.
func TestLongPaths(t *testing.T) {
	p := longProcess()
	c, _, err := Chance(p, many(5, 3))
	if err != nil || c.Den < 1<<58 {
		t.Error(c, err)
	}
	r, err := Reverse(p, many(5, 3))
	if err != nil || r.Den < 1<<47 {
		t.Error(r, err)
	}
	high, low := many(4, 1000), many(4, 1)
	q := Process{Weights: [][]int{low, high, low, high, low}, Steps: many(4, unit(4))}
	if _, gain, err := Chance(q, []int{3, 3, 3, 3, 3}); gain != frac(1, 1) || err != nil {
		t.Error(gain, err)
	}
	q = Process{Weights: [][]int{{1, 997}, {997, 1}, {1, 997}, {997, 1}, {1, 997}}}
	for _, w := range q.Weights[1:] {
		q.Steps = append(q.Steps, afresh(w))
	}
	if _, gain, err := Chance(q, []int{0, 1, 0, 1, 0}); gain != frac(997*997*997*997, 1) || err != nil {
		t.Error(gain, err)
	}
	if _, gain, err := Chance(q, []int{1, 0, 1, 0, 0}); gain != frac(1, 997*997*997*997) || err != nil {
		t.Error(gain, err)
	}
}

// A row may be taken times a number: nothing changes.
func TestRowsTimes(t *testing.T) {
	r := rand.New(rand.NewSource(132))
	for _, p := range someProcesses(1321, 3) {
		q := cloned(p)
		for _, step := range q.Steps {
			for _, row := range step {
				times := 1 + r.Intn(max(1, api.MaxWeight/sum(row)))
				for k := range row {
					row[k] *= times
				}
			}
		}
		eachPath(len(p.Weights[0]), len(p.Weights), func(path []int) {
			if a, b := answersOfPath(p, path), answersOfPath(q, path); !slices.Equal(a, b) {
				t.Error(p, path, a, b)
			}
		})
	}
}

func answersOfPath(p Process, path []int) []any {
	c, gain, err := Chance(p, path)
	r, bad := Reverse(p, path)
	return []any{c, gain, err, r, bad}
}
