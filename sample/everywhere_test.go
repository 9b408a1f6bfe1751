package sample

// P1 to P4, as far as they speak of package sample.

import (
	"errors"
	"math"
	"reflect"
	"slices"
	"strings"
	"sync"
	"testing"

	"demon/api"
	"demon/dist"
)

func wildNumbers() []int {
	return []int{math.MinInt, math.MinInt32, -17, -1, 0, 1, 2, 3, 6, 7, 15, 16, 17, 4000, 4095, 4096, 4097, 1 << 32, 1 << 62, math.MaxInt}
}

func wildLists() [][]int {
	out := [][]int{nil, {}, make([]int, 100000)}
	for _, a := range wildNumbers() {
		for _, n := range []int{1, 2, 3, 15, 16, 17, 4000, 4001} {
			out = append(out, many(n, a))
		}
		for _, b := range wildNumbers() {
			out = append(out, []int{a, b}, []int{1, a, b}, []int{0, a, 0, b})
		}
	}
	return out
}

func wildTexts() []string {
	out := []string{"", "é", "\xff\xfe", "\x00", "𝟘𝟙", "٠١", "０１", " ", "01 ", "\n", "+1", "-1", "0x1"}
	for _, s := range []string{"0", "1", "01", "10", "2", "110"} {
		for _, n := range []int{1, 2, 5, 12, 13, 1334, 2000, 2001, 4000, 4001, 100000} {
			out = append(out, strings.Repeat(s, n))
		}
	}
	return out
}

func wildRules() []Rules {
	out := rightRules()
	for _, x := range allWrongRules() {
		out = append(out, x.r)
	}
	for _, l := range wildLists() {
		out = append(out, Rules{l}, Rules{l, l}, Rules{{0, 0, 1}, l}, Rules{l, nil})
	}
	return out
}

// P1 and P3: every call ends without a panic; with an error there is nothing else; dist.Valid's errors come first.
func TestWildTrees(t *testing.T) {
	texts := wildTexts()
	for _, w := range wildLists() {
		bad := dist.Valid(w)
		f, err := Flips(w)
		if err != bad || (f == api.Frac{}) != (err != nil) {
			t.Error(len(w), f, err)
		}
		for _, s := range texts {
			which, used, err := Draw(w, s)
			if bad != nil && err != bad || err != nil && (which != 0 || used != 0) {
				t.Error(len(w), len(s), which, used, err)
			}
			if err == nil && (which < 0 || which >= len(w) || w[which] == 0 || used < 0 || used > len(s)) {
				t.Error(w, len(s), which, used)
			}
			if !slices.Contains([]error{nil, api.ErrBound, api.ErrShape, api.ErrText, api.ErrNone}, err) {
				t.Error(len(w), len(s), err)
			}
		}
	}
}

func TestWildRules(t *testing.T) {
	tapes := wildLists()
	for _, r := range wildRules() {
		bad := Valid(r)
		if !slices.Contains([]error{nil, api.ErrBound, api.ErrShape, api.ErrOrder}, bad) {
			t.Error(bad)
		}
		for _, tape := range tapes {
			state, used, ok, err := Past(r, tape)
			if bad != nil && err != bad || (err != nil || !ok) && (state != 0 || used != 0 || ok) {
				t.Error(len(r), len(tape), state, used, ok, err)
			}
			var f *api.Fault
			if errors.As(err, &f) && (f.Err != api.ErrShape || f.At < 0 || f.At >= len(tape)) {
				t.Error(len(r), len(tape), err)
			}
			if ok && (state < 0 || state >= len(r[0]) || used < 1 || used > len(tape)) {
				t.Error(len(r), len(tape), state, used)
			}
		}
		for _, steps := range wildNumbers() {
			ends, open, err := Ends(r, steps)
			if bad != nil && err != bad || err != nil && (len(ends) != 0 || open != 0) || err == nil && len(ends) != len(r[0]) {
				t.Error(len(r), steps, ends, open, err)
			}
		}
	}
}

// answers of all calls of the package.
func answers(w []int, s string, r Rules, tape []int, steps int) []any {
	out := []any{Valid(r)}
	which, used, err := Draw(w, s)
	out = append(out, which, used, err)
	f, err := Flips(w)
	out = append(out, f, err)
	state, used, ok, err := Past(r, tape)
	out = append(out, state, used, ok, err)
	ends, open, err := Ends(r, steps)
	return append(out, ends, open, err)
}

func wantAnswers() []any {
	return []any{nil, 2, 4, nil, frac(8, 3), nil, 2, 2, true, nil, []int{1, 0, 1}, 2, nil}
}

// P2: the same answers, however many ask at once, and again and again.
func TestSideBySide(t *testing.T) {
	w, r, tape := []int{1, 1, 1}, walk(3), []int{1, 1, 0}
	var all sync.WaitGroup
	for range 16 {
		all.Go(func() {
			for range 100 {
				if got := answers(w, "1110", r, tape, 2); !reflect.DeepEqual(got, wantAnswers()) {
					t.Error(got)
				}
			}
		})
	}
	all.Wait()
}

// P3 and P4: what lies behind a list's length is left alone, what is handed over is only read.
func TestOnlyRead(t *testing.T) {
	numbers := []int{1, 1, 1, -1, 0, 0, 1, -1, 1, 2, 2, 9, 1, 1, 0, 7, -5}
	rows := [][]int{numbers[4:7], numbers[8:11], {1, 0}, nil}
	kept := slices.Clone(numbers)
	if got := answers(numbers[:3], "1110", Rules(rows[:2]), numbers[12:15], 2); !reflect.DeepEqual(got, wantAnswers()) {
		t.Error(got)
	}
	if !slices.Equal(numbers, kept) {
		t.Error(numbers)
	}
	if len(rows[0]) != 3 || &rows[0][0] != &numbers[4] || len(rows[1]) != 3 || &rows[1][0] != &numbers[8] || len(rows[2]) != 2 || rows[3] != nil {
		t.Error(rows)
	}
}

// P4: what is answered is new memory, and nothing is kept; an error that is changed by who got it is none of the next one's.
func TestNewMemory(t *testing.T) {
	r := walk(3)
	for range 3 {
		ends, open, err := Ends(r, 2)
		if !slices.Equal(ends, []int{1, 0, 1}) || open != 2 || err != nil {
			t.Error(ends, open, err)
		}
		spoilt := ends[:cap(ends)]
		for i := range spoilt {
			spoilt[i] = -9
		}
		_, _, _, err = Past(r, []int{0, 2})
		if !isError(err, api.ErrShape, 1) {
			t.Error(err)
		}
		*err.(*api.Fault) = api.Fault{At: 9}
	}
	if !reflect.DeepEqual(r, walk(3)) {
		t.Error(r)
	}
	// What was handed over may be changed between two calls.
	w, tape := []int{1, 1, 1}, []int{1, 1, 0}
	before := answers(w, "1110", r, tape, 1)
	w[0], tape[0], tape[1], r[0] = 2, 0, 0, []int{0, 0, 0}
	after := answers(w, "1110", r, tape, 1)
	if reflect.DeepEqual(before, after) || !reflect.DeepEqual(after, []any{nil, 2, 2, nil, frac(3, 2), nil, 0, 1, true, nil, []int{1, 0, 0}, 1, nil}) {
		t.Error(before, after)
	}
}
