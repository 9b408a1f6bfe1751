package logs

// P1 to P4, as far as they speak of package logs.

import (
	"math"
	"slices"
	"sync"
	"testing"

	"demon/api"
)

func wildNumbers() []int {
	return []int{math.MinInt, math.MinInt + 1, -api.MaxCoef - 1, -api.MaxCoef, -api.MaxPart - 1, -2, -1, 0, 1, 2, 3, 4, 30, 999983, api.MaxDen, api.MaxDen + 1, api.MaxPart, api.MaxPart + 1, api.MaxCoef, api.MaxCoef + 1, math.MaxInt}
}

func wildLogs() []api.Log {
	var out []api.Log
	for _, x := range wildNumbers() {
		out = append(out, api.Log{Den: x}, api.Log{Den: x, L: []api.Term{}}, api.Log{Den: x, L: make([]api.Term, 3)})
		for _, y := range wildNumbers() {
			out = append(out, log(1, x, y), log(2, x, y), log(x, 2, y), log(x, 2, y, 3, 1), log(1, 2, x, 3, y), log(999983, 2, x, 3, y))
		}
	}
	return out
}

// P1 and P3: every call ends without a panic; with an error there is nothing else; else what comes is in form.
func checkLog(t *testing.T, a api.Log, err error) {
	t.Helper()
	if err != nil && (err != api.ErrShape && err != api.ErrBound || !same(a, api.Log{})) {
		t.Error(a, err)
	}
	if err == nil && Valid(a) != nil {
		t.Error("not in form:", a)
	}
}

func TestWildLogs(t *testing.T) {
	all := wildLogs()
	for i, a := range all {
		bad := Valid(a)
		n, err := Sign(a)
		if bad != nil && err != bad || err != nil && n != 0 || n < -1 || n > 1 {
			t.Error(a, n, err)
		}
		if n, err = Grains(a); bad != nil && err != bad || err != nil && n != 0 {
			t.Error(a, n, err)
		}
		if s, err := Text(a); err != bad || (s == "") != (err != nil) {
			t.Error(a, s, err)
		}
		for k := range 10 {
			s, err := Add(a, all[(i+k*257)%len(all)])
			checkLog(t, s, err)
		}
	}
}

func TestWildFractions(t *testing.T) {
	few := []api.Log{{}, log(1), log(1, 2, 1), log(api.MaxDen, 2, 1), log(1, 2, api.MaxCoef), log(3, 2, -api.MaxCoef, 3, 1)}
	for _, x := range wildNumbers() {
		for _, y := range wildNumbers() {
			f := api.Frac{Num: x, Den: y}
			a, err := Of(f)
			checkLog(t, a, err)
			for _, a := range few {
				s, err := Scale(a, f)
				checkLog(t, s, err)
			}
		}
	}
}

// P2: the same answers, however many ask at once.
func TestSideBySide(t *testing.T) {
	a, b := log(6, 2, 3, 3, -4, 5, 7, 11, 1), log(10, 2, 1, 7, -3, 13, 9)
	ask := func() []any {
		s, _ := Add(a, b)
		c, _ := Scale(s, api.Frac{Num: -6, Den: 9})
		text, _ := Text(c)
		n, _ := Sign(c)
		g, _ := Grains(c)
		back, err := Read(text)
		return []any{text, n, g, err, same(back, c)}
	}
	want := ask()
	var all sync.WaitGroup
	for range 16 {
		all.Go(func() {
			for range 50 {
				if got := ask(); !slices.Equal(got, want) {
					t.Error(got, want)
				}
			}
		})
	}
	all.Wait()
}

// P3: a nil list and an empty one are one thing.
func TestNilAndEmpty(t *testing.T) {
	none, empty := api.Log{Den: 1}, api.Log{Den: 1, L: []api.Term{}}
	other := log(2, 3, 1)
	for _, a := range []api.Log{none, empty} {
		for _, b := range []api.Log{none, empty} {
			if s, err := Add(a, b); err != nil || s.Den != 1 || len(s.L) != 0 {
				t.Error(s, err)
			}
		}
		if s, err := Add(a, other); err != nil || !same(s, other) {
			t.Error(s, err)
		}
		if s, err := Scale(a, api.Frac{Num: 2, Den: 3}); err != nil || s.Den != 1 || len(s.L) != 0 {
			t.Error(s, err)
		}
		if s, err := Text(a); err != nil || s != "0" {
			t.Error(s, err)
		}
	}
}

// P3 and P4: what lies behind a list's length is left alone, what is handed over is only read, what is answered is new memory.
func TestMemory(t *testing.T) {
	memory := []api.Term{{Prime: 2, Coef: 1}, {Prime: 5, Coef: -3}, {Prime: 4, Coef: 9}, {Prime: 7, Coef: 1}}
	kept := slices.Clone(memory)
	a := api.Log{Den: 2, L: memory[:2]}
	calls := []func() api.Log{
		func() api.Log { s, _ := Add(a, log(1)); return s },
		func() api.Log { s, _ := Add(log(1), a); return s },
		func() api.Log { s, _ := Add(a, a); return s },
		func() api.Log { s, _ := Scale(a, api.Frac{Num: 1, Den: 1}); return s },
		func() api.Log { s, _ := Scale(a, api.Frac{Num: 3, Den: 7}); return s },
		func() api.Log { s, _ := Of(api.Frac{Num: 12, Den: 5}); return s },
		func() api.Log { s, _ := Read("2 log 2 - log 3"); return s },
	}
	for i, call := range calls {
		first := call()
		want := api.Log{Den: first.Den, L: slices.Clone(first.L)}
		spoil(first.L)
		if again := call(); len(want.L) == 0 || !same(again, want) {
			t.Error(i, again, want)
		}
	}
	for _, ask := range []func(api.Log) (int, error){Sign, Grains} {
		if _, err := ask(a); err != nil {
			t.Error(err)
		}
	}
	if s, err := Text(a); err != nil || s != "1/2 log 2 - 3/2 log 5" {
		t.Error(s, err)
	}
	if !slices.Equal(memory, kept) {
		t.Error(memory)
	}
}

func spoil(l []api.Term) {
	l = l[:cap(l)]
	for i := range l {
		l[i] = api.Term{Prime: -1, Coef: -1}
	}
}
