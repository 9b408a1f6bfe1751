package secret

import (
	"math"
	"math/rand"
	"reflect"
	"slices"
	"testing"

	"demon/api"
)

type cipherCase struct {
	c   Cipher
	err error
}

// wrongCiphers: with Valid's errors.
func wrongCiphers() []cipherCase {
	full, three := upTo(16), [][]int{{0, 1}, {1, 0}, {2, 3}}
	return []cipherCase{
		// Keys' errors come first, in their order.
		{Cipher{}, api.ErrShape},
		{Cipher{Keys: []int{}, L: [][]int{{0}}}, api.ErrShape},
		{Cipher{Keys: []int{0}, L: [][]int{{0}}}, api.ErrShape},
		{Cipher{Keys: []int{0, 0}, L: [][]int{{0}, {0}}}, api.ErrShape},
		{Cipher{Keys: []int{1, -1}, L: [][]int{{0}, {0}}}, api.ErrShape},
		{Cipher{Keys: []int{5000, -1}, L: [][]int{{0}, {0}}}, api.ErrShape},
		{Cipher{Keys: []int{5000}}, api.ErrBound},
		{Cipher{Keys: []int{4097}, L: [][]int{{0}}}, api.ErrBound},
		{Cipher{Keys: []int{4096, 1}, L: [][]int{{0}, {0}}}, api.ErrBound},
		{Cipher{Keys: []int{4096, 1}, L: [][]int{{0}}}, api.ErrBound},
		{Cipher{Keys: []int{math.MaxInt, math.MaxInt, 2}, L: three}, api.ErrBound},
		{Cipher{Keys: many(17, 1), L: many(17, []int{0})}, api.ErrBound},
		{Cipher{Keys: many(17, -1), L: many(17, []int{0})}, api.ErrBound},
		{Cipher{Keys: many(17, 1)}, api.ErrBound},
		// Not as many rows as keys.
		{Cipher{Keys: []int{1}}, api.ErrShape},
		{Cipher{Keys: []int{1}, L: [][]int{}}, api.ErrShape},
		{Cipher{Keys: []int{1, 1}, L: three}, api.ErrShape},
		{Cipher{Keys: []int{1, 1, 1, 0}, L: three}, api.ErrShape},
		{Cipher{Keys: many(16, 1), L: many(17, []int{0})}, api.ErrShape},
		{Cipher{Keys: many(16, 1), L: many(15, []int{0})}, api.ErrShape},
		// Rows that are empty, long, or of unlike lengths.
		{Cipher{Keys: []int{1}, L: [][]int{nil}}, api.ErrShape},
		{Cipher{Keys: []int{1}, L: [][]int{{}}}, api.ErrShape},
		{Cipher{Keys: []int{1, 1}, L: [][]int{{}, nil}}, api.ErrShape},
		{Cipher{Keys: []int{1}, L: [][]int{upTo(17)}}, api.ErrShape},
		{Cipher{Keys: []int{1}, L: [][]int{append(full, 0)}}, api.ErrShape},
		{Cipher{Keys: []int{1}, L: [][]int{many(100000, 3)}}, api.ErrShape},
		{Cipher{Keys: []int{1, 1}, L: [][]int{{0}, {0, 1}}}, api.ErrShape},
		{Cipher{Keys: []int{1, 1}, L: [][]int{{0, 1}, {0}}}, api.ErrShape},
		{Cipher{Keys: []int{1, 1}, L: [][]int{{0}, {}}}, api.ErrShape},
		{Cipher{Keys: []int{1, 0}, L: [][]int{{0}, {}}}, api.ErrShape},
		{Cipher{Keys: []int{1, 1, 1}, L: with(three, 2, []int{1})}, api.ErrShape},
		// Signs that are none, or twice; also of a key that never comes.
		{Cipher{Keys: []int{1}, L: [][]int{{-1}}}, api.ErrShape},
		{Cipher{Keys: []int{1}, L: [][]int{{16}}}, api.ErrShape},
		{Cipher{Keys: []int{1}, L: [][]int{{0, math.MinInt}}}, api.ErrShape},
		{Cipher{Keys: []int{1}, L: [][]int{{math.MaxInt, 0}}}, api.ErrShape},
		{Cipher{Keys: []int{1}, L: [][]int{{0, 0}}}, api.ErrShape},
		{Cipher{Keys: []int{1}, L: [][]int{{3, 5, 3}}}, api.ErrShape},
		{Cipher{Keys: []int{1}, L: [][]int{with(full, 15, 0)}}, api.ErrShape},
		{Cipher{Keys: []int{1}, L: [][]int{with(full, 0, 15)}}, api.ErrShape},
		{Cipher{Keys: []int{1, 1, 1}, L: with(three, 2, []int{15, 15})}, api.ErrShape},
		{Cipher{Keys: []int{1, 1, 0}, L: with(three, 2, []int{0, 16})}, api.ErrShape},
		{Cipher{Keys: []int{1, 1, 0}, L: with(three, 2, []int{7, 7})}, api.ErrShape},
		{Cipher{Keys: many(16, 1), L: with(turned(16, nil).L, 15, with(full, 3, 4))}, api.ErrShape},
	}
}

func rightCiphers() []Cipher {
	full := upTo(16)
	return []Cipher{
		{[]int{1}, [][]int{{0}}},
		{[]int{4096}, [][]int{{15}}},
		{[]int{1}, [][]int{full}},
		{[]int{0, 4096}, [][]int{{3, 4}, {4, 3}}},
		{[]int{4095, 1}, [][]int{{3, 4}, {3, 4}}},
		{many(16, 256), many(16, []int{0})},
		{many(16, 1), many(16, full)},
		turned(16, many(16, 256)),
		turned(3, []int{1, 1, 1}),
		turned(3, []int{2, 1, 1}),
	}
}

// P100

func TestValid(t *testing.T) {
	for _, c := range rightCiphers() {
		if err := Valid(c); err != nil {
			t.Error(c, err)
		}
	}
	for _, x := range wrongCiphers() {
		if err := Valid(x.c); err != x.err {
			t.Error(x, err)
		}
	}
}

// All lists of up to three signs, also of such as there are not.
func TestSomeRows(t *testing.T) {
	for n := range 4 {
		eachList(n, 19, func(l []int) {
			right := n > 0
			for i := range l {
				l[i]--
				right = right && l[i] >= 0 && l[i] <= 15 && !slices.Contains(l[:i], l[i])
			}
			if err := Valid(Cipher{Keys: []int{1}, L: [][]int{l}}); (err == nil) != right || err != nil && err != api.ErrShape {
				t.Error(l, err)
			}
		})
	}
}

// P101

func TestPerfect(t *testing.T) {
	for _, x := range []struct {
		c    Cipher
		want bool
	}{
		{turned(3, []int{1, 1, 1}), true},
		{turned(3, []int{2, 1, 1}), false},
		{turned(3, []int{1, 1, 0}), false},
		{turned(16, many(16, 256)), true},
		{turned(16, with(many(16, 255), 7, 254)), false},
		// One message is never told.
		{Cipher{[]int{1}, [][]int{{7}}}, true},
		{Cipher{[]int{1, 5, 0}, [][]int{{7}, {2}, {3}}}, true},
		// One key, more messages: never.
		{Cipher{[]int{3}, [][]int{{0, 1}}}, false},
		{Cipher{[]int{3}, [][]int{upTo(16)}}, false},
		// Signs need not be alike: only messages.
		{Cipher{[]int{2, 2, 1, 1}, [][]int{{0, 1}, {1, 0}, {2, 9}, {9, 2}}}, true},
		{Cipher{[]int{2, 1, 2, 1}, [][]int{{0, 1}, {1, 0}, {2, 9}, {9, 2}}}, false},
		// Several keys may do the same.
		{Cipher{[]int{2, 1, 3}, [][]int{{0, 1}, {0, 1}, {1, 0}}}, true},
		{Cipher{[]int{2, 2, 3}, [][]int{{0, 1}, {0, 1}, {1, 0}}}, false},
		// A key that never comes does nothing.
		{Cipher{[]int{1, 1, 0}, [][]int{{0, 1}, {1, 0}, {4, 5}}}, true},
		{Cipher{[]int{1, 0}, [][]int{{0, 1}, {1, 0}}}, false},
		// The last message alone is unlike.
		{Cipher{[]int{1, 1}, [][]int{{0, 1, 2}, {1, 0, 3}}}, false},
		{Cipher{[]int{1, 1, 1}, [][]int{{0, 1, 2}, {1, 2, 0}, {2, 0, 3}}}, false},
	} {
		if is, err := Perfect(x.c); is != x.want || err != nil {
			t.Error(x, is, err)
		}
	}
	for _, x := range wrongCiphers() {
		if is, err := Perfect(x.c); is || err != x.err {
			t.Error(x, is, err)
		}
	}
}

func TestTable(t *testing.T) {
	three := turned(3, []int{1, 1, 1})
	for _, x := range []struct {
		c    Cipher
		w    []int
		want [][]int
	}{
		{three, []int{1, 2, 0}, [][]int{{1, 1, 1}, {2, 2, 2}, {0, 0, 0}}},
		{turned(3, []int{2, 1, 5}), []int{1, 2, 3}, [][]int{{2, 1, 5}, {10, 4, 2}, {3, 15, 6}}},
		{Cipher{[]int{7}, [][]int{{3}}}, []int{5}, [][]int{{0, 0, 0, 35}}},
		{Cipher{[]int{2, 3}, [][]int{{1, 0}, {1, 2}}}, []int{10, 100}, [][]int{{0, 50, 0}, {200, 0, 300}}},
		{Cipher{[]int{1, 1, 1}, [][]int{{0, 1}, {0, 1}, {1, 0}}}, []int{1, 1}, [][]int{{2, 1}, {1, 2}}},
		// The greatest sign has its column, though its key never comes, or its message.
		{Cipher{[]int{1, 0}, [][]int{{0}, {5}}}, []int{1}, [][]int{{1, 0, 0, 0, 0, 0}}},
		{Cipher{[]int{1}, [][]int{{0, 2}}}, []int{1, 0}, [][]int{{1, 0, 0}, {0, 0, 0}}},
		{Cipher{[]int{1}, [][]int{{15, 0}}}, []int{1, 4}, [][]int{with(many(16, 0), 15, 1), with(many(16, 0), 0, 4)}},
		// As much as there may be.
		{Cipher{[]int{4096}, [][]int{{0}}}, []int{1}, [][]int{{4096}}},
		{Cipher{[]int{1}, [][]int{{0}}}, []int{4096}, [][]int{{4096}}},
		{Cipher{[]int{63, 1}, [][]int{{0, 1}, {1, 0}}}, []int{1, 63}, [][]int{{63, 1}, {63, 3969}}},
		{turned(16, many(16, 4)), many(16, 4), many(16, many(16, 16))},
	} {
		if got, err := Table(x.c, x.w); !reflect.DeepEqual(got, x.want) || err != nil {
			t.Error(x, got, err)
		}
	}
}

type tableCase struct {
	c   Cipher
	w   []int
	err error
}

func wrongTables() []tableCase {
	two := Cipher{[]int{16, 1}, [][]int{{0, 1}, {1, 0}}}
	out := []tableCase{
		{two, nil, api.ErrShape},
		{two, []int{}, api.ErrShape},
		{two, []int{0, 0}, api.ErrShape},
		{two, []int{1, -1}, api.ErrShape},
		{two, []int{4097, -1}, api.ErrShape},
		{two, []int{4097}, api.ErrBound},
		{two, []int{4096, 1}, api.ErrBound},
		{two, []int{math.MaxInt, math.MaxInt}, api.ErrBound},
		{two, many(17, 1), api.ErrBound},
		{two, many(17, -1), api.ErrBound},
		{two, []int{1}, api.ErrShape},
		{two, []int{1, 1, 0}, api.ErrShape},
		// How many they are comes ahead of how much they make.
		{two, []int{4096}, api.ErrShape},
		{two, []int{4094, 1, 1}, api.ErrShape},
		{two, []int{240, 1}, api.ErrBound}, // 4097
		{two, []int{1, 240}, api.ErrBound},
		{two, []int{2048, 2048}, api.ErrBound},
		{Cipher{[]int{4096}, [][]int{{0}}}, []int{2}, api.ErrBound},
		{Cipher{[]int{4096}, [][]int{{0}}}, []int{4096}, api.ErrBound},
		{turned(16, many(16, 256)), many(16, 256), api.ErrBound},
		{turned(16, many(16, 4)), with(many(16, 4), 3, 5), api.ErrBound},
	}
	// A cipher's errors come ahead of those of the weights.
	for _, x := range wrongCiphers() {
		for _, w := range [][]int{nil, {1}, {-1}, {4097}, many(17, 1), {1, 1}, {1, 1, 1}} {
			out = append(out, tableCase{x.c, w, x.err})
		}
	}
	return out
}

func TestWrongTable(t *testing.T) {
	for _, x := range wrongTables() {
		if got, err := Table(x.c, x.w); len(got) != 0 || err != x.err {
			t.Error(x, got, err)
		}
	}
}

func checkCipher(t *testing.T, c Cipher, w []int) bool {
	t.Helper()
	is, err := Perfect(c)
	if is != wantPerfect(c) || err != nil {
		t.Error(c, is, err)
	}
	if got, err := Table(c, w); !reflect.DeepEqual(got, wantTable(c, w)) || err != nil {
		t.Error(c, w, got, err)
	}
	return is
}

func TestSomeCiphers(t *testing.T) {
	r := rand.New(rand.NewSource(101))
	perfect := 0
	for range 20000 {
		most := 1 + r.Intn(4)
		c := someCipher(r, 1+r.Intn(5), 1+r.Intn(most), most, 1+r.Intn(3))
		if checkCipher(t, c, someWeights(r, len(c.L[0]), 1+r.Intn(9))) && len(c.L[0]) > 1 {
			perfect++
		}
	}
	for range 2000 {
		most := 1 + r.Intn(16)
		c := someCipher(r, 1+r.Intn(16), 1+r.Intn(most), most, 16)
		checkCipher(t, c, someWeights(r, len(c.L[0]), 1))
	}
	if perfect < 300 {
		t.Error(perfect)
	}
}
