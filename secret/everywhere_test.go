package secret

// P1 to P4, as far as they speak of package secret.

import (
	"math"
	"reflect"
	"slices"
	"sync"
	"testing"

	"demon/api"
)

func wildNumbers() []int {
	return []int{math.MinInt, -997, -1, 0, 1, 2, 3, 4, 12, 15, 16, 17, 24, 25, 996, 997, 998, 4096, 4097, 1 << 32, 1 << 61, 1<<61 - 1, math.MaxInt}
}

func wildLists() [][]int {
	out := [][]int{nil, {}, {1, 1}, {1, 2, 3}, upTo(11), upTo(12), upTo(13), upTo(13)[1:], upTo(14)[1:], upTo(17), many(12, 1), many(16, 1), many(17, 1), make([]int, 100000), many(100000, math.MaxInt)}
	for _, n := range wildNumbers() {
		out = append(out, []int{n}, []int{1, n}, []int{n, n, 2}, []int{3, n, 5, 2})
	}
	return out
}

func wildCiphers() []Cipher {
	out := rightCiphers()
	for _, x := range wrongCiphers() {
		out = append(out, x.c)
	}
	for _, keys := range wildLists() {
		out = append(out, Cipher{Keys: keys}, Cipher{keys, make([][]int, len(keys))}, Cipher{keys, many(len(keys), []int{1, 0})}, Cipher{keys, many(len(keys), keys)}, Cipher{[]int{1}, [][]int{keys}}, Cipher{[]int{1, 1}, [][]int{upTo(len(keys)), keys}})
	}
	return out
}

// P1 and P3: every call ends without a panic; with an error, which is bare, there is nothing else; a cipher's errors come first.
func TestWildCiphers(t *testing.T) {
	lists := wildLists()
	for _, c := range wildCiphers() {
		bad := Valid(c)
		if bad != nil && bad != api.ErrShape && bad != api.ErrBound {
			t.Error(bad)
		}
		if is, err := Perfect(c); err != bad || is && err != nil {
			t.Error(is, err, bad)
		}
		for _, w := range lists {
			x, err := Table(c, w)
			if bad != nil && err != bad || (len(x) == 0) != (err != nil) || err != nil && err != api.ErrShape && err != api.ErrBound {
				t.Error(x, err, bad)
			}
		}
	}
}

func TestWildShares(t *testing.T) {
	lists := wildLists()
	for _, p := range append(noModuli(), 2, 3, 5, 13, 29, 997) {
		for _, l := range lists {
			for _, n := range wildNumbers() {
				out, err := Share(p, l, n)
				if (len(out) == 0) != (err != nil) || err == nil && len(out) != n || !isOneOf(err, api.ErrKind, api.ErrBound, api.ErrShape) {
					t.Error(p, len(l), n, out, err)
				}
			}
			for _, v := range lists {
				s, err := Join(p, l, v)
				if s < 0 || err == nil && s >= p || err != nil && s != 0 || !isOneOf(err, api.ErrKind, api.ErrBound, api.ErrShape) {
					t.Error(p, len(l), len(v), s, err)
				}
			}
		}
	}
}

func isOneOf(err error, l ...error) bool { return err == nil || slices.Contains(l, err) }

// answers of all calls of the package.
func answers(c Cipher, w []int, p int, coefs []int, n int, at, values []int) []any {
	out := []any{Valid(c)}
	is, err := Perfect(c)
	out = append(out, is, err)
	x, err := Table(c, w)
	out = append(out, x, err)
	l, err := Share(p, coefs, n)
	out = append(out, l, err)
	s, err := Join(p, at, values)
	return append(out, s, err)
}

func wantAnswers() []any {
	return []any{nil, true, nil, [][]int{{1, 1, 1}, {2, 2, 2}, {0, 0, 0}}, nil, []int{0, 6, 3, 2, 3}, nil, 7, nil}
}

// P2: the same answers, however many ask at once.
func TestSideBySide(t *testing.T) {
	c, w, coefs, at, values := turned(3, []int{1, 1, 1}), []int{1, 2, 0}, []int{7, 3, 1}, []int{5, 2, 4}, []int{3, 6, 2}
	want := wantAnswers()
	var all sync.WaitGroup
	for range 16 {
		all.Go(func() {
			for range 30 {
				if got := answers(c, w, 11, coefs, 5, at, values); !reflect.DeepEqual(got, want) {
					t.Error(got, want)
				}
			}
		})
	}
	all.Wait()
}

// P3 and P4: what lies behind a list's length is left alone, what is handed over is only read.
func TestOnlyRead(t *testing.T) {
	numbers := []int{1, 1, 1, -1, 0, 1, 2, 99, 1, 2, 0, -5, 2, 0, 1, 1, 2, 0, 77, 7, 3, 1, 88, 5, 2, 4, 9, 3, 6, 2, math.MinInt}
	rows := [][]int{numbers[4:7], numbers[8:11], numbers[12:15], {-1}, nil}
	kept := slices.Clone(numbers)
	got := answers(Cipher{numbers[0:3], rows[:3]}, numbers[15:18], 11, numbers[19:22], 5, numbers[23:26], numbers[27:30])
	if want := wantAnswers(); !reflect.DeepEqual(got, want) {
		t.Error(got, want)
	}
	if !slices.Equal(numbers, kept) {
		t.Error(numbers)
	}
	for i, at := range []int{4, 8, 12} {
		if &rows[i][0] != &numbers[at] || len(rows[i]) != 3 {
			t.Error(rows)
		}
	}
	if len(rows[3]) != 1 || rows[3][0] != -1 || rows[4] != nil {
		t.Error(rows)
	}
}

// P4: what is answered is new memory, no two lists of it share any, and nothing is kept.
func TestNewMemory(t *testing.T) {
	c, w, coefs := turned(3, []int{1, 1, 1}), []int{1, 2, 0}, []int{7, 3, 1}
	for range 3 {
		x, err := Table(c, w)
		for i, row := range [][]int{{1, 1, 1}, {2, 2, 2}, {0, 0, 0}} {
			if !slices.Equal(x[i], row) || err != nil {
				t.Error(i, x, err)
			}
			spoil(x[i])
		}
		l, err := Share(11, coefs, 5)
		if !slices.Equal(l, []int{0, 6, 3, 2, 3}) || err != nil {
			t.Error(l, err)
		}
		spoil(l)
	}
	if !reflect.DeepEqual(c, turned(3, []int{1, 1, 1})) || !slices.Equal(w, []int{1, 2, 0}) || !slices.Equal(coefs, []int{7, 3, 1}) {
		t.Error(c, w, coefs)
	}
}

func spoil(l []int) {
	l = l[:cap(l)]
	for i := range l {
		l[i] = -1
	}
}
