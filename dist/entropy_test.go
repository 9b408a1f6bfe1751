package dist

import (
	"math/rand"
	"slices"
	"testing"

	"demon/api"
)

// P21

func TestEntropy(t *testing.T) {
	for _, c := range []struct {
		w    []int
		want string
	}{
		{[]int{1, 1, 2}, "3/2 log 2"},
		{[]int{1, 0, 1, 0, 2, 0}, "3/2 log 2"},
		{[]int{1024, 2048, 1024}, "3/2 log 2"},
		{[]int{5}, "0"},
		{[]int{0, 7, 0}, "0"},
		{[]int{api.MaxWeight}, "0"},
		{[]int{1, 2}, "-2/3 log 2 + log 3"},
		{[]int{4, 2}, "-2/3 log 2 + log 3"},
		{[]int{1, 1, 1}, "log 3"},
		{[]int{1, 3}, "2 log 2 - 3/4 log 3"},
		{many(16, 1), "4 log 2"},
		{many(16, 256), "4 log 2"},
		{many(15, 100), "log 3 + log 5"},
		{[]int{1, 4095}, "12 log 2 - 4095/2048 log 3 - 4095/4096 log 5 - 4095/4096 log 7 - 4095/4096 log 13"},
		{[]int{2, 4091}, "-2/4093 log 2 - 4091/4093 log 4091 + log 4093"},
	} {
		a, err := Entropy(c.w)
		if got := text(t, a, err); got != c.want {
			t.Error(c, got)
		}
	}
	for _, c := range weightsCases() {
		if a, err := Entropy(c.w); err != c.err || err != nil && !same(a, api.Log{}) {
			t.Error(c, a, err)
		}
	}
}

func TestEntropyIsExact(t *testing.T) {
	for _, w := range someLists(rand.New(rand.NewSource(21))) {
		a, err := Entropy(w)
		if want := wantEntropy(t, w); !same(must(t)(a, err), want) {
			t.Error(w, a, want)
		}
	}
}

// P22

func TestDivergence(t *testing.T) {
	for _, c := range []struct {
		p, q []int
		want string
	}{
		{[]int{1, 1}, []int{1, 3}, "log 2 - 1/2 log 3"},
		{[]int{1, 3}, []int{1, 1}, "-log 2 + 3/4 log 3"},
		{[]int{1, 2}, []int{2, 4}, "0"},
		{[]int{1, 0}, []int{2, 0}, "0"},
		{[]int{1, 0}, []int{1, 1}, "log 2"},
		{[]int{0, 2, 0}, []int{1, 1, 1}, "log 3"},
		{[]int{0, 4}, []int{4095, 1}, "12 log 2"},
		{[]int{7}, []int{4096}, "0"},
		{many(16, 1), many(16, 256), "0"},
		{with(many(16, 0), 9, 1), many(16, 1), "4 log 2"},
	} {
		a, err := Divergence(c.p, c.q)
		if got := text(t, a, err); got != c.want {
			t.Error(c, got)
		}
	}
}

func TestDivergenceRefuses(t *testing.T) {
	cases := append(pairErrors(), []struct {
		p, q []int
		err  error
	}{
		{[]int{1, 1}, []int{1, 0}, api.ErrZero},
		{[]int{1, 1}, []int{0, 1}, api.ErrZero},
		{[]int{0, 0, 1}, []int{1, 1, 0}, api.ErrZero},
		{[]int{1, 1}, []int{1, 0, 0}, api.ErrShape},
		{[]int{1, 1}, []int{0, -1}, api.ErrShape},
		{[]int{1, 1}, []int{0, api.MaxWeight + 1}, api.ErrBound},
	}...)
	for _, c := range cases {
		if a, err := Divergence(c.p, c.q); err != c.err || !same(a, api.Log{}) {
			t.Error(c, a, err)
		}
	}
}

func TestDivergenceIsExact(t *testing.T) {
	r := rand.New(rand.NewSource(22))
	for _, p := range someLists(r) {
		q := someWeights(r, len(p), 1+r.Intn(api.MaxWeight/len(p)))
		a, err := Divergence(p, q)
		if lacks(p, q) {
			if err != api.ErrZero || !same(a, api.Log{}) {
				t.Error(p, q, a, err)
			}
			for i := range q {
				q[i] = 1 + q[i]/2
			}
			a, err = Divergence(p, q)
		}
		if want := wantDivergence(t, p, q); !same(must(t)(a, err), want) {
			t.Error(p, q, a, want)
		}
	}
}

// lacks: is a chance of q 0, where p's is not?
func lacks(p, q []int) bool {
	for i := range p {
		if p[i] > 0 && q[i] == 0 {
			return true
		}
	}
	return false
}

// P23

func TestTables(t *testing.T) {
	for _, c := range []struct {
		t                    [][]int
		joint, given, mutual string
	}{
		{[][]int{{1, 1}, {2, 0}}, "3/2 log 2", "1/2 log 2", "3/2 log 2 - 3/4 log 3"},
		{[][]int{{1, 2}, {1, 0}}, "3/2 log 2", "-1/2 log 2 + 3/4 log 3", "3/2 log 2 - 3/4 log 3"},
		{[][]int{{9}}, "0", "0", "0"},
		{[][]int{{1, 2, 1}}, "3/2 log 2", "3/2 log 2", "0"},
		{[][]int{{1}, {2}, {1}}, "3/2 log 2", "0", "0"},
		{[][]int{{1, 0}, {0, 1}}, "log 2", "0", "log 2"},
		{[][]int{{1, 1}, {1, 1}}, "2 log 2", "log 2", "0"},
		{[][]int{{1, 2}, {2, 4}}, "-4/3 log 2 + 2 log 3", "-2/3 log 2 + log 3", "0"},
		{[][]int{{0, 0}, {1, 1}, {0, 0}}, "log 2", "log 2", "0"},
		{[][]int{{0, 3, 0}, {0, 1, 0}}, "2 log 2 - 3/4 log 3", "0", "0"},
		{table(16, 16, 16), "8 log 2", "4 log 2", "0"},
		{table(3, 5, 7), "log 3 + log 5", "log 5", "0"},
	} {
		j, err := Joint(c.t)
		if got := text(t, j, err); got != c.joint {
			t.Error(c, "Joint:", got)
		}
		g, err := Given(c.t)
		if got := text(t, g, err); got != c.given {
			t.Error(c, "Given:", got)
		}
		m, err := Mutual(c.t)
		if got := text(t, m, err); got != c.mutual {
			t.Error(c, "Mutual:", got)
		}
	}
}

func TestTablesRefused(t *testing.T) {
	for _, c := range tableCases() {
		for _, call := range []func([][]int) (api.Log, error){Joint, Given, Mutual} {
			if a, err := call(c.t); err != c.err || err != nil && !same(a, api.Log{}) {
				t.Error(c, a, err)
			}
		}
	}
}

func TestTablesAreExact(t *testing.T) {
	for _, x := range someTables(rand.New(rand.NewSource(23))) {
		j, err := Joint(x)
		if want := wantEntropy(t, slices.Concat(x...)); !same(must(t)(j, err), want) {
			t.Error("Joint", x, j, want)
		}
		g, err := Given(x)
		if want := wantGiven(t, x); !same(must(t)(g, err), want) {
			t.Error("Given", x, g, want)
		}
		m, err := Mutual(x)
		if want := wantMutual(t, x); !same(must(t)(m, err), want) {
			t.Error("Mutual", x, m, want)
		}
	}
}
