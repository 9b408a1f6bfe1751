package lempel

// P61

import (
	"errors"
	"fmt"
	"math"
	"math/rand"
	"slices"
	"strings"
	"testing"

	"demon/api"
)

func TestSlide(t *testing.T) {
	for _, c := range []struct {
		s      string
		window int
		want   string
	}{
		{"", 1, "[]"},
		{"", api.MaxText, "[]"},
		{"a", 1, "[{0 0 97 false}]"},
		{"aa", 1, "[{0 0 97 false} {1 1 0 true}]"},
		{"aaaa", 1, "[{0 0 97 false} {1 3 0 true}]"},
		{"aaaa", 3, "[{0 0 97 false} {1 3 0 true}]"}, // the nearest
		{"aaab", 3, "[{0 0 97 false} {1 2 98 false}]"},
		{"abababc", 3, "[{0 0 97 false} {0 0 98 false} {2 4 99 false}]"},
		{"abababc", 2, "[{0 0 97 false} {0 0 98 false} {2 4 99 false}]"},
		{"ababab", 2, "[{0 0 97 false} {0 0 98 false} {2 4 0 true}]"},
		{"abab", 1, "[{0 0 97 false} {0 0 98 false} {0 0 97 false} {0 0 98 false}]"},
		{"abcab", 2, "[{0 0 97 false} {0 0 98 false} {0 0 99 false} {0 0 97 false} {0 0 98 false}]"},
		{"abcab", 3, "[{0 0 97 false} {0 0 98 false} {0 0 99 false} {3 2 0 true}]"},
		{"abcabx", 3, "[{0 0 97 false} {0 0 98 false} {0 0 99 false} {3 2 120 false}]"},
		{"abcaxab", 9, "[{0 0 97 false} {0 0 98 false} {0 0 99 false} {3 1 120 false} {5 2 0 true}]"}, // the longest, though another one is nearer
		{"abcaxab", 4, "[{0 0 97 false} {0 0 98 false} {0 0 99 false} {3 1 120 false} {2 1 98 false}]"},
		{"\x00\x00", 1, "[{0 0 0 false} {1 1 0 true}]"},
		{"\x00\x00\xff\x00", 2, "[{0 0 0 false} {1 1 255 false} {2 1 0 true}]"},
		{"éé", 4, "[{0 0 195 false} {0 0 169 false} {2 2 0 true}]"},
	} {
		l, err := Slide(c.s, c.window)
		if got := fmt.Sprint(l); got != c.want || err != nil {
			t.Errorf("%q %d: %s %v", c.s, c.window, got, err)
		}
	}
}

func checkSlide(t *testing.T, s string, window int) {
	t.Helper()
	if l, err := Slide(s, window); !slices.Equal(l, wantSlide(s, window)) || err != nil {
		t.Errorf("%q %d: %v %v", s, window, l, err)
	}
}

func TestAllSlid(t *testing.T) {
	for n := range 12 {
		for _, s := range allTexts("ab", n) {
			for window := 1; window <= n+1; window++ {
				checkSlide(t, s, window)
			}
		}
	}
	for n := range 8 {
		for _, s := range allTexts("\x00a\xff", n) {
			for _, window := range []int{1, 2, 3, 4, api.MaxText} {
				checkSlide(t, s, window)
			}
		}
	}
}

func TestSomeSlid(t *testing.T) {
	r := rand.New(rand.NewSource(62))
	for range 300 {
		checkSlide(t, someText(r, r.Intn(120), 1+r.Intn(4), byte(r.Intn(256))), 1+r.Intn(130))
		checkSlide(t, someText(r, r.Intn(120), 256, 0), 1+r.Intn(130))
	}
}

func TestSlideBound(t *testing.T) {
	full := strings.Repeat("x", api.MaxText)
	for _, c := range []struct {
		s      string
		window int
		bad    bool
	}{
		{full, 1, false},
		{full, api.MaxText, false},
		{full + "x", 1, true},
		{full + "x", api.MaxText, true},
		{full + "x", 0, true},
		{strings.Repeat("é", api.MaxText/2+1), 1, true},
		{"", 0, true},
		{"", api.MaxText, false},
		{"aa", 0, true},
		{"aa", -1, true},
		{"aa", api.MaxText, false},
		{"aa", api.MaxText + 1, true},
		{"aa", math.MaxInt, true},
		{"aa", math.MinInt, true},
	} {
		l, err := Slide(c.s, c.window)
		if c.bad && (err != api.ErrBound || len(l) != 0) || !c.bad && err != nil {
			t.Error(len(c.s), c.window, l, err)
		}
	}
	// The window reaches so far, and not one byte further.
	far := "ab" + strings.Repeat("x", api.MaxText-5) + "yab"
	if l, err := Slide(far, api.MaxText-2); err != nil || l[len(l)-1] != (Copy{Back: api.MaxText - 2, Length: 2, Last: true}) {
		t.Error(l, err)
	}
	if l, err := Slide(far, api.MaxText-3); err != nil || l[len(l)-1] != (Copy{Next: 'b'}) {
		t.Error(l, err)
	}
}

func TestUnslide(t *testing.T) {
	for _, c := range []struct {
		l    []Copy
		want string
	}{
		{nil, ""},
		{[]Copy{}, ""},
		{[]Copy{{0, 0, 'a', false}, {0, 0, 'b', false}, {2, 4, 'c', false}}, "abababc"},
		{[]Copy{{0, 0, 'a', false}, {1, 3, 0, true}}, "aaaa"},
		{[]Copy{{0, 0, 0, false}, {1, 1, 0, false}, {3, 2, 0, true}}, "\x00\x00\x00\x00\x00"},
		{[]Copy{{0, 0, 0xe9, false}, {1, 1, 0xff, false}, {2, 3, 0, true}}, "\xe9\xe9\xff\xe9\xff\xe9"},
		// What no text is slid into is a text all the same: not the longest, not the nearest, no copy where one is.
		{[]Copy{{0, 0, 'a', false}, {0, 0, 'a', false}, {2, 1, 'a', false}, {0, 0, 'b', false}}, "aaaab"},
	} {
		if got, err := Unslide(c.l); got != c.want || err != nil {
			t.Errorf("%v: %q %v", c.l, got, err)
		}
	}
}

func TestUnslideFaults(t *testing.T) {
	a := Copy{Next: 'a'}
	for _, c := range []struct {
		l  []Copy
		at int
	}{
		{[]Copy{{Back: 1, Length: 1}}, 0},
		{[]Copy{{Back: -1, Length: 1}}, 0},
		{[]Copy{a, {Back: 2, Length: 1}}, 1},
		{[]Copy{a, {Back: math.MaxInt, Length: 1}}, 1},
		{[]Copy{a, {Back: math.MinInt, Length: 1}}, 1},
		{[]Copy{a, {Back: 1, Length: 1, Next: 'b'}, {Back: 4, Length: 1}}, 2},
		{[]Copy{a, {Back: 1, Length: -1}}, 1},
		{[]Copy{a, {Back: 1, Length: math.MinInt}}, 1},
		{[]Copy{a, {Length: -1}}, 1},
		{[]Copy{a, {Back: 1}}, 1},
		{[]Copy{a, {Length: 1}}, 1},
		{[]Copy{{Last: true}}, 0},
		{[]Copy{a, {Last: true}}, 1},
		{[]Copy{a, {Back: 1, Last: true}}, 1},
		{[]Copy{a, {Length: 1, Last: true}}, 1},
		{[]Copy{a, {Back: 1, Length: 1, Last: true, Next: 'b'}}, 1},
		{[]Copy{a, {Back: 1, Length: 1, Last: true}, a}, 1},
		{[]Copy{a, {Back: 1, Length: 1, Last: true}, {Back: 1, Length: 1, Last: true}}, 1},
		{[]Copy{a, {Back: 9, Length: 1}, {Back: 1, Length: 1, Last: true}, {Back: -1}}, 1},
		{append(slices.Repeat([]Copy{a}, api.MaxText-1), Copy{Back: api.MaxText, Length: 1}), api.MaxText - 1},
	} {
		if got, err := Unslide(c.l); !isFault(err, c.at) || !errors.Is(err, api.ErrShape) || got != "" {
			t.Errorf("%v: %q %v", c.l, got, err)
		}
	}
}

func TestUnslideBound(t *testing.T) {
	const most = api.MaxText
	a := Copy{Next: 'a'}
	for _, c := range []struct {
		name string
		l    []Copy
		err  error
	}{
		{"as many copies as can be", slices.Repeat([]Copy{a}, most), nil},
		{"one more", slices.Repeat([]Copy{a}, most+1), api.ErrBound},
		{"one more, the first one a fault", append([]Copy{{Back: 7}}, slices.Repeat([]Copy{a}, most)...), api.ErrBound},
		{"as many bytes as can be", []Copy{a, {Back: 1, Length: most - 2, Next: 'a'}}, nil},
		{"as many bytes, by the last one", []Copy{a, {Back: 1, Length: most - 1, Last: true}}, nil},
		{"one more byte", []Copy{a, {Back: 1, Length: most - 1, Next: 'a'}}, api.ErrBound},
		{"one more byte, by the last one", []Copy{a, {Back: 1, Length: most, Last: true}}, api.ErrBound},
		{"one more byte, behind", []Copy{a, {Back: 1, Length: most - 2, Next: 'a'}, a}, api.ErrBound},
		{"a length too great", []Copy{{Back: 0, Length: most + 1}}, api.ErrBound},
		{"a length far too great", []Copy{a, {Back: 1, Length: math.MaxInt, Last: true}}, api.ErrBound},
		{"a length too great, behind a fault", []Copy{{Back: 1, Length: 1}, {Back: 1, Length: most + 1}}, api.ErrBound},
		{"far more bytes", append([]Copy{a}, slices.Repeat([]Copy{{Back: 1, Length: most}}, most-1)...), api.ErrBound},
	} {
		got, err := Unslide(c.l)
		if err != c.err || err != nil && got != "" || err == nil && got != strings.Repeat("a", most) {
			t.Error(c.name, len(got), err)
		}
	}
}

// A fault is told ahead of too many bytes, wherever it stands; Back reaches as far as there would be bytes.
func TestUnslideFaultAhead(t *testing.T) {
	const most = api.MaxText
	long := []Copy{{Next: 'a'}, {Back: 1, Length: most, Next: 'a'}}
	if got, err := Unslide(append(slices.Clone(long), Copy{Back: most + 2, Length: 1, Last: true})); err != api.ErrBound || got != "" {
		t.Error(got, err)
	}
	for _, c := range []Copy{{Back: most + 3, Length: 1, Last: true}, {Back: 1, Length: -1}, {Back: 1}, {Length: most}, {Last: true}, {Back: 1, Length: 1, Next: 'a', Last: true}} {
		if got, err := Unslide(append(slices.Clone(long), c)); !isFault(err, 2) || got != "" {
			t.Error(c, got, err)
		}
	}
}

// someCopies, most of them right.
func someCopies(r *rand.Rand) []Copy {
	l := make([]Copy, r.Intn(10))
	bytes := 0
	for i := range l {
		c := Copy{Next: byte('a' + r.Intn(3))}
		if bytes > 0 && r.Intn(3) > 0 {
			c.Back, c.Length = 1+r.Intn(bytes), 1+r.Intn(9)
		}
		switch r.Intn(60) {
		case 0:
			c.Back = bytes + 1
		case 1:
			c.Back = -1
		case 2:
			c.Back = 0
		case 3:
			c.Length = 0
		case 4:
			c.Length = -1
		case 5:
			c.Last = true
		case 6:
			c.Last, c.Next = true, 0
		}
		if i == len(l)-1 && r.Intn(2) == 0 {
			c.Last, c.Next = true, byte(r.Intn(4)/3)
		}
		l[i] = c
		bytes += max(0, c.Length) + 1
	}
	return l
}

func TestSomeCopies(t *testing.T) {
	r := rand.New(rand.NewSource(63))
	faults := 0
	for range 20000 {
		l := someCopies(r)
		want, bad := wantUnslide(l)
		got, err := Unslide(l)
		if got != want || bad < 0 && err != nil || bad >= 0 && !isFault(err, bad) {
			t.Errorf("%v: %q %v, want %q %d", l, got, err, want, bad)
		}
		if bad >= 0 {
			faults++
		}
	}
	if faults < 4000 || faults > 16000 {
		t.Error("one-sided:", faults)
	}
}
