package renyi

import (
	"math"
	"math/big"
	"math/rand"
	"slices"
	"testing"

	"demon/api"
	"demon/dist"
	"demon/logs"
)

func text(t *testing.T, a api.Log, err error) string {
	t.Helper()
	if err != nil {
		if !sameLog(a, api.Log{}) {
			t.Error(a, err)
		}
		return err.Error()
	}
	s, err := logs.Text(a)
	if err != nil {
		t.Fatal(a, err)
	}
	return s
}

type weightsCase struct {
	w   []int
	err error
}

func wrongWeights() []weightsCase {
	most, least := math.MaxInt, math.MinInt
	return []weightsCase{
		{nil, api.ErrShape},
		{[]int{}, api.ErrShape},
		{[]int{0}, api.ErrShape},
		{many(16, 0), api.ErrShape},
		{[]int{-1}, api.ErrShape},
		{[]int{3, -1, 2}, api.ErrShape},
		{[]int{least, most}, api.ErrShape},
		{[]int{most, -1}, api.ErrShape},
		{[]int{4097}, api.ErrBound},
		{[]int{4096, 1}, api.ErrBound},
		{[]int{1, 0, 4096}, api.ErrBound},
		{[]int{most, most, 2}, api.ErrBound},
		{[]int{1, 1 << 62, 1 << 62, 1 << 62, 1 << 62}, api.ErrBound},
		{many(17, 1), api.ErrBound},
		{many(17, 0), api.ErrBound},
		{many(17, -1), api.ErrBound},
		{many(100000, 1), api.ErrBound},
	}
}

func TestWrongWeights(t *testing.T) {
	for _, c := range wrongWeights() {
		if err := dist.Valid(c.w); err != c.err {
			t.Fatal(len(c.w), err)
		}
		for i, call := range []func([]int) (api.Log, error){Collision, Least, Support} {
			if a, err := call(c.w); err != c.err || !sameLog(a, api.Log{}) {
				t.Error(i, len(c.w), a, err)
			}
		}
		if f, err := Guesses(c.w); err != c.err || f != (api.Frac{}) {
			t.Error(len(c.w), f, err)
		}
	}
}

// P170

func TestEntropies(t *testing.T) {
	for _, c := range []struct {
		w                         []int
		collision, least, support string
	}{
		{[]int{2, 1, 1, 0}, "3 log 2 - log 3", "log 2", "log 3"},
		{[]int{1}, "0", "0", "0"},
		{[]int{4096}, "0", "0", "0"},
		{[]int{0, 7, 0}, "0", "0", "0"},
		{[]int{1, 1}, "log 2", "log 2", "log 2"},
		{[]int{5, 5, 5}, "log 3", "log 3", "log 3"},
		{[]int{1, 3}, "3 log 2 - log 5", "2 log 2 - log 3", "log 2"},
		{[]int{3, 1, 0, 0}, "3 log 2 - log 5", "2 log 2 - log 3", "log 2"},
		{[]int{2, 6}, "3 log 2 - log 5", "2 log 2 - log 3", "log 2"},
		{[]int{1, 2, 3}, "log 2 + 2 log 3 - log 7", "log 2", "log 3"},
		{[]int{2, 2, 3}, "2 log 7 - log 17", "-log 3 + log 7", "log 3"},
		{[]int{4095, 1}, "demon: bound", "12 log 2 - 2 log 3 - log 5 - log 7 - log 13", "log 2"},
		{[]int{2048, 2048}, "log 2", "log 2", "log 2"},
		{many(16, 256), "4 log 2", "4 log 2", "4 log 2"},
		{many(15, 1), "log 3 + log 5", "log 3 + log 5", "log 3 + log 5"},
		{slices.Concat(many(4, 0), many(12, 1)), "2 log 2 + log 3", "2 log 2 + log 3", "2 log 2 + log 3"},
	} {
		a, e := Collision(c.w)
		b, f := Least(c.w)
		d, g := Support(c.w)
		if got := []string{text(t, a, e), text(t, b, f), text(t, d, g)}; !slices.Equal(got, []string{c.collision, c.least, c.support}) {
			t.Error(c.w, got)
		}
	}
}

// Which weights have numbers of just MaxNumber, or the next ones that come, hangs on what cancels.
func TestCollisionBound(t *testing.T) {
	for _, c := range []struct {
		w    []int
		want string
	}{
		{[]int{3674, 22, 242, 62}, "6 log 2 + 6 log 5 - log 23 - log 43 - log 857"},
		{[]int{0, 62, 0, 22, 3674, 242}, "6 log 2 + 6 log 5 - log 23 - log 43 - log 857"},
		{[]int{499, 500}, "6 log 3 - log 17 + 2 log 37 - log 149 - log 197"},
		{[]int{500, 501}, "demon: bound"},
		{[]int{500, 0, 501}, "demon: bound"},
		{[]int{1000, 1002}, "demon: bound"},
		{[]int{2, 17, 460, 98, 424}, "demon: bound"},
		{[]int{1000, 1001, 2000}, "demon: bound"},
		{[]int{1365, 1365, 1365}, "log 3"},
		{[]int{1365, 1365, 1366}, "demon: bound"},
	} {
		a, err := Collision(c.w)
		if got := text(t, a, err); got != c.want {
			t.Error(c.w, got, collisionOf(c.w))
		}
	}
}

// checkEntropies: all three by the words; it tells whether Collision could be told.
func checkEntropies(t *testing.T, w []int) bool {
	t.Helper()
	one := rat(1, 1)
	a, err := Collision(w)
	want, told := logOf(t, new(big.Rat).Quo(one, collisionOf(w)))
	if told && (err != nil || !sameLog(a, want)) || !told && (err != api.ErrBound || !sameLog(a, api.Log{})) {
		t.Error(w, a, err, want)
	}
	a, err = Least(w)
	if want, ok := logOf(t, new(big.Rat).Quo(one, greatest(chances(w)))); !ok || err != nil || !sameLog(a, want) {
		t.Error(w, a, err, want)
	}
	some := new(big.Rat)
	for _, x := range chances(w) {
		if x.Sign() > 0 {
			some = plus(some, one)
		}
	}
	a, err = Support(w)
	if want, ok := logOf(t, some); !ok || err != nil || !sameLog(a, want) {
		t.Error(w, a, err, want)
	}
	return told
}

func TestEntropiesByWords(t *testing.T) {
	for length, most := range map[int]int{1: 40, 2: 12, 3: 5, 4: 3} {
		eachWeights(length, most, func(w []int) { checkEntropies(t, w) })
	}
	told, untold := 0, 0
	for _, w := range someLists(rand.New(rand.NewSource(170)), 3000) {
		if checkEntropies(t, w) {
			told++
		} else {
			untold++
		}
	}
	if told < 500 || untold < 200 {
		t.Error(told, untold)
	}
}

// P171

func TestGuesses(t *testing.T) {
	for _, c := range []struct {
		w    []int
		want api.Frac
	}{
		{[]int{1, 3, 2}, frac(5, 3)},
		{[]int{3, 2, 1}, frac(5, 3)},
		{[]int{1, 2, 3}, frac(5, 3)},
		{[]int{2, 0, 6, 0, 4}, frac(5, 3)},
		{[]int{1}, frac(1, 1)},
		{[]int{4096}, frac(1, 1)},
		{[]int{0, 0, 5}, frac(1, 1)},
		{[]int{1, 1}, frac(3, 2)},
		{[]int{1, 4095}, frac(4097, 4096)},
		{[]int{4, 4, 4}, frac(2, 1)},
		{[]int{1, 2, 4, 8}, frac(26, 15)},
		{many(16, 1), frac(17, 2)},
		{many(16, 256), frac(17, 2)},
		{append(many(15, 1), 0), frac(8, 1)},
	} {
		if f, err := Guesses(c.w); f != c.want || err != nil {
			t.Error(c.w, f, err)
		}
	}
}

// No order is better: of all orders, of short lists; of long ones by always taking the likeliest one.
func TestBestOrder(t *testing.T) {
	for length, most := range map[int]int{1: 9, 2: 9, 3: 4, 4: 3, 5: 2} {
		eachWeights(length, most, func(w []int) {
			if f, err := Guesses(w); err != nil || !isFrac(f, wantGuesses(w)) {
				t.Error(w, f, err)
			}
		})
	}
	r := rand.New(rand.NewSource(171))
	for _, w := range someLists(r, 3000) {
		f, err := Guesses(w)
		if err != nil || !isFrac(f, greedy(w)) {
			t.Error(w, f, err)
		}
		if by := guessesBy(w, r.Perm(len(w))); new(big.Rat).SetFrac64(int64(f.Num), int64(f.Den)).Cmp(by) > 0 {
			t.Error(w, f, by)
		}
	}
}
