package heat

import (
	"testing"

	"demon/api"
)

// P133

func TestMean(t *testing.T) {
	for _, x := range []struct {
		p    Process
		want api.Frac
	}{
		{small(), frac(2, 1)},
		{Process{Weights: [][]int{{1}}}, frac(1, 1)},
		{Process{Weights: [][]int{{3, 4, 5}}}, frac(1, 1)},
		{Process{Weights: [][]int{{4}, {6}}, Steps: [][][]int{{{5}}}}, frac(3, 2)},
		{Process{Weights: [][]int{{1, 1}, {1, 3}, {2, 6}}, Steps: many(2, small().Steps[0])}, frac(4, 1)},
		{Process{Weights: [][]int{{6, 2}, {1, 3}}, Steps: small().Steps}, frac(1, 2)},
		// A step that changes nothing, and one that takes all afresh.
		{Process{Weights: [][]int{{1, 2, 3}, {5, 1, 1}}, Steps: [][][]int{unit(3)}}, frac(7, 6)},
		{Process{Weights: [][]int{{1, 2, 3}, {5, 1, 1}}, Steps: [][][]int{afresh([]int{5, 1, 1})}}, frac(7, 6)},
		{Process{Weights: [][]int{{1, 1, 1, 1}, {1000, 1000, 1000, 1000}}, Steps: [][][]int{unit(4)}}, frac(1000, 1)},
		{longProcess(), frac(4000, 3997)},
		{still(4, 4), frac(1, 1)},
	} {
		if f, err := Mean(x.p); f != x.want || err != nil {
			t.Error(x, f, err)
		}
	}
}

func TestMeanRefuses(t *testing.T) {
	for _, x := range wrongProcesses() {
		if f, err := Mean(x.p); f != (api.Frac{}) || !isError(err, x.err, x.at) {
			t.Error(x, f, err)
		}
	}
}

// Path by path.
func TestSomeMeans(t *testing.T) {
	for _, p := range append(rightProcesses(), someProcesses(133, 24)...) {
		if f, err := Mean(p); !told(f, wantMean(p)) || err != nil {
			t.Error(p, f, err)
		}
	}
}

// What is carried follows the rows, also where they do not keep the weights: there the mean is not the quotient of the last weights and the first ones.
func TestCarried(t *testing.T) {
	p := Process{Weights: [][]int{{1, 2}, {3, 1}, {5, 7}}, Steps: [][][]int{{{1, 4}, {2, 3}}, {{0, 1}, {1, 1}}}}
	now := startOf(p.Weights[0])
	for i, step := range p.Steps {
		now = now.gain(p.Weights[i], p.Weights[i+1]).step(step)
	}
	sum := now.parts[0].Plus(now.parts[1])
	want := wantMean(p)
	left, right := sum.Times(want.Denom().Uint64()), now.den.Times(want.Num().Uint64())
	if left.Cmp(right) != 0 || want.Cmp(quotient(p)) == 0 {
		t.Error(sum, now.den, want)
	}
}
