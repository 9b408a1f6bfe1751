package sample

import (
	"math"
	"math/rand"
	"slices"
	"testing"

	"demon/api"
)

// P143 and P144

// late is a tape of so many steps of rule 0, but for one, of rule 1.
func late(steps, at int) []int {
	out := make([]int, steps)
	out[at] = 1
	return out
}

func TestPast(t *testing.T) {
	r := walk(3)
	one := Rules{stays(4), many(4, 2)} // what makes all one state, and stays
	for _, x := range []struct {
		r           Rules
		tape        []int
		state, used int
		ok          bool
	}{
		{r, nil, 0, 0, false},
		{r, []int{0}, 0, 0, false},
		{r, []int{0, 0}, 0, 2, true},
		{r, []int{1, 1}, 2, 2, true},
		{r, []int{0, 1}, 0, 0, false},
		{r, []int{1, 0}, 0, 0, false},
		{r, []int{1, 1, 0}, 2, 2, true},
		{r, []int{0, 1, 1}, 0, 0, false}, // three steps lead to one state, but that is no power of 2
		{r, []int{0, 1, 1, 0}, 1, 4, true},
		{r, []int{1, 0, 0, 1}, 1, 4, true},
		{r, []int{0, 1, 0, 0}, 0, 4, true},
		{r, []int{0, 1, 0, 1, 1}, 0, 0, false},
		{r, []int{0, 1, 0, 1, 1, 0, 0, 0}, 1, 8, true},
		// The last step is the first one of the tape.
		{Rules{{0, 0, 1}, {0, 2, 2}}, []int{0, 1}, 0, 0, false},
		{Rules{{0, 0, 2}, {0, 1, 1}}, []int{0, 1}, 0, 2, true},
		{Rules{{0, 0, 2}, {0, 1, 1}}, []int{1, 0}, 0, 0, false},
		{Rules{{1, 1}, {0, 0}}, []int{0, 1}, 1, 1, true},
		{Rules{{1, 1}, {0, 0}}, []int{1, 0}, 0, 1, true},
		// Of one state all are one, but it takes a step to see it.
		{Rules{{0}}, nil, 0, 0, false},
		{Rules{{0}}, []int{0}, 0, 1, true},
		{Rules{{0}}, many(4000, 0), 0, 1, true},
		{Rules{stays(2)}, many(4000, 0), 0, 0, false},
		{one, late(1, 0), 2, 1, true},
		{one, late(2, 1), 2, 2, true},
		{one, late(3, 2), 0, 0, false},
		{one, late(4, 2), 2, 4, true},
		{one, late(4000, 1024), 2, 2048, true},
		{one, late(4000, 2047), 2, 2048, true},
		{one, late(2048, 2047), 2, 2048, true},
		{one, late(2047, 2046), 0, 0, false},
		// There are more steps, but not as many as the next power of 2.
		{one, late(4000, 2048), 0, 0, false},
		{one, late(4000, 3999), 0, 0, false},
		// At both ends of what may be.
		{many(16, stays(16)), many(4000, 15), 0, 0, false},
		{append(many(15, stays(16)), many(16, 15)), many(4000, 15), 15, 1, true},
	} {
		state, used, ok, err := Past(x.r, x.tape)
		if state != x.state || used != x.used || ok != x.ok || err != nil {
			t.Error(x.r, len(x.tape), x.state, x.used, x.ok, state, used, ok, err)
		}
	}
}

func checkPastRefused(t *testing.T, r Rules, tape []int, want error, at int) {
	t.Helper()
	state, used, ok, err := Past(r, tape)
	if state != 0 || used != 0 || ok || !isError(err, want, at) {
		t.Error(r, len(tape), state, used, ok, err)
	}
}

func TestPastRefuses(t *testing.T) {
	for _, x := range allWrongRules() {
		for _, tape := range [][]int{nil, {0}, {0, 0, 0, 0}, {-1}, {17}, many(4001, 0)} {
			checkPastRefused(t, x.r, tape, x.err, -1)
		}
	}
	r := walk(3)
	checkPastRefused(t, r, many(4001, 0), api.ErrBound, -1)
	checkPastRefused(t, r, many(100000, 0), api.ErrBound, -1)
	// Too many come ahead of what is no rule.
	checkPastRefused(t, r, many(4001, 2), api.ErrBound, -1)
	checkPastRefused(t, r, many(4000, 2), api.ErrShape, 0)
	for _, wrong := range []int{math.MinInt, -2, -1, 2, 3, 15, 16, math.MaxInt} {
		// Also behind the steps that are needed.
		for _, at := range []int{0, 1, 2, 3, 2999, 3999} {
			tape := many(4000, 1)
			tape[at] = wrong
			checkPastRefused(t, r, tape, api.ErrShape, at)
			checkPastRefused(t, r, tape[:at+1], api.ErrShape, at)
			// Only the first one is told.
			for i := at + 1; i < len(tape); i += 500 {
				tape[i] = -7
			}
			checkPastRefused(t, r, tape, api.ErrShape, at)
		}
	}
}

func checkPast(t *testing.T, r Rules, tape []int) bool {
	t.Helper()
	wantState, wantUsed, want := wantPast(r, tape)
	state, used, ok, err := Past(r, tape)
	if state != wantState || used != wantUsed || ok != want || err != nil {
		t.Fatal(r, tape, state, used, ok, err, wantState, wantUsed, want)
	}
	return ok
}

// Each two rules of three states, and all tapes of up to six steps.
func TestAllPasts(t *testing.T) {
	all := risings(3)
	for _, a := range all {
		for _, b := range all {
			for steps := range 7 {
				eachRow(steps, 2, func(tape []int) { checkPast(t, Rules{a, b}, tape) })
			}
		}
	}
}

func TestSomePasts(t *testing.T) {
	r := rand.New(rand.NewSource(143))
	seen := map[int]int{}
	for k := range 6000 {
		rules := someRules(r, 1+r.Intn(16), 1+r.Intn(16))
		tape := make([]int, r.Intn([]int{9, 70, 600}[k%3]))
		for i := range tape {
			tape[i] = r.Intn(len(rules))
		}
		checkPast(t, rules, tape)
		_, used, _, _ := Past(rules, tape)
		seen[used]++
	}
	for _, used := range []int{0, 1, 2, 4, 8, 16, 32, 64, 128} {
		if seen[used] < 10 {
			t.Error(seen)
		}
	}
}

func TestEnds(t *testing.T) {
	r := walk(3)
	for _, x := range []struct {
		r     Rules
		steps int
		ends  []int
		open  int
	}{
		{r, 0, []int{0, 0, 0}, 1},
		{r, 1, []int{0, 0, 0}, 2},
		{r, 2, []int{1, 0, 1}, 2},
		{r, 3, []int{2, 2, 2}, 2},
		// Of one state also the empty tape leads all there.
		{Rules{{0}}, 0, []int{1}, 0},
		{Rules{{0}}, 6, []int{1}, 0},
		{many(5, []int{0}), 6, []int{15625}, 0},
		{many(16, []int{0}), 3, []int{4096}, 0},
		{Rules{stays(16)}, 6, many(16, 0), 1},
		{Rules{{1, 1}, {0, 0}, {0, 1}}, 2, []int{4, 4}, 1},
		// Rules that are the same are two all the same.
		{Rules{{0, 0}, {1, 1}, {1, 1}}, 2, []int{3, 6}, 0},
		{Rules{many(16, 15)}, 1, append(many(15, 0), 1), 0},
	} {
		ends, open, err := Ends(x.r, x.steps)
		if !slices.Equal(ends, x.ends) || open != x.open || err != nil {
			t.Error(x, ends, open, err)
		}
	}
}

func checkEndsRefused(t *testing.T, r Rules, steps int, want error) {
	t.Helper()
	ends, open, err := Ends(r, steps)
	if len(ends) != 0 || open != 0 || err != want {
		t.Error(len(r), steps, ends, open, err)
	}
}

func TestEndsRefuses(t *testing.T) {
	for _, x := range allWrongRules() {
		for _, steps := range []int{0, 1, 6, 7, -1} {
			checkEndsRefused(t, x.r, steps, x.err)
		}
	}
	for _, r := range []Rules{{{0}}, walk(3), many(16, stays(16))} {
		for _, steps := range []int{math.MinInt, math.MinInt32, -2, -1, 7, 8, 63, 64, 1 << 32, math.MaxInt} {
			checkEndsRefused(t, r, steps, api.ErrBound)
		}
	}
}

// Of each number of rules as many steps as there may be, and not one more.
func TestEndsBound(t *testing.T) {
	for rules := 1; rules <= 16; rules++ {
		for steps := range 7 {
			r := many(rules, []int{0, 1})
			if tapesOf(rules, steps) > 20000 {
				checkEndsRefused(t, r, steps, api.ErrBound)
				continue
			}
			if ends, open, err := Ends(r, steps); !slices.Equal(ends, []int{0, 0}) || open != tapesOf(rules, steps) || err != nil {
				t.Error(rules, steps, ends, open, err)
			}
		}
	}
}

func checkEnds(t *testing.T, r Rules, steps int) {
	t.Helper()
	wantEnds, wantOpen := wantEnds(r, steps)
	ends, open, err := Ends(r, steps)
	if !slices.Equal(ends, wantEnds) || open != wantOpen || err != nil {
		t.Fatal(r, steps, ends, open, err, wantEnds, wantOpen)
	}
}

func TestAllEnds(t *testing.T) {
	all := risings(3)
	for _, a := range all {
		for _, b := range all {
			for steps := range 7 {
				checkEnds(t, Rules{a, b}, steps)
			}
		}
	}
}

func TestSomeEnds(t *testing.T) {
	r := rand.New(rand.NewSource(144))
	for range 500 {
		rules := someRules(r, 1+r.Intn(16), 1+r.Intn(16))
		steps := r.Intn(7)
		for tapesOf(len(rules), steps) > 20000 {
			steps--
		}
		checkEnds(t, rules, steps)
	}
}
