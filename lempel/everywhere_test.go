package lempel

// P1 to P4, as far as they speak of package lempel.

import (
	"math"
	"reflect"
	"slices"
	"strings"
	"sync"
	"testing"

	"demon/api"
)

func wildNumbers() []int {
	return []int{math.MinInt, -api.MaxText, -1, 0, 1, 2, 4, 5, 24, 25, api.MaxText - 1, api.MaxText, api.MaxText + 1, 1 << 62, math.MaxInt}
}

func wildTexts() []string {
	return []string{"", "0", "1", "01", "2", "\x00", "\xff\xfe", "0\n", "é", zeros(24), ones(25), strings.Repeat("01", 12), zeros(api.MaxText), ones(api.MaxText + 1), strings.Repeat("ab", 100000)}
}

// P1 and P3: every call ends without a panic; with an error there is nothing else.
func TestWildTexts(t *testing.T) {
	for _, s := range wildTexts() {
		l, err := Parse(s)
		if (err != nil) != (len(s) > api.MaxText) || err != nil && (err != api.ErrBound || len(l) != 0) {
			t.Error(len(s), l, err)
		}
		f, err := Chance(s)
		if err != nil && f != (api.Frac{}) || err == nil && (f.Num < 1 || f.Den < f.Num) {
			t.Error(len(s), f, err)
		}
		for _, n := range wildNumbers() {
			l, err := Slide(s, n)
			if err != nil && (err != api.ErrBound || len(l) != 0) || err == nil && (len(l) == 0) != (s == "") {
				t.Error(len(s), n, l, err)
			}
			w, worse := Weighted(s, n)
			if worse != nil && (worse != api.ErrBound && worse != api.ErrText || w != (api.Frac{})) || worse == nil && (w.Num < 1 || w.Den < w.Num) {
				t.Error(len(s), n, w, worse)
			}
		}
	}
}

func TestWildLists(t *testing.T) {
	for _, a := range wildNumbers() {
		for _, ahead := range []int{0, 1, 5, api.MaxText - 1, api.MaxText} {
			for _, last := range []bool{false, true} {
				l := append(slices.Repeat([]Phrase{{Next: 'a'}}, ahead), Phrase{Of: a, Last: last})
				s, err := Text(l)
				if code := errorKind(err); code < 0 || (code > 0) != (s == "") {
					t.Error(ahead, a, last, s, err)
				}
				for _, b := range wildNumbers() {
					l := append(slices.Repeat([]Copy{{Next: 'a'}}, ahead), Copy{Back: a, Length: b, Last: last})
					s, err := Unslide(l)
					if code := errorKind(err); code < 0 || (code > 0) != (s == "") {
						t.Error(ahead, a, b, last, s, err)
					}
				}
			}
		}
	}
}

// errorKind: 0 none, 1 ErrBound bare, 2 a fault with ErrShape; -1 another one.
func errorKind(err error) int {
	if err == nil {
		return 0
	}
	if err == api.ErrBound {
		return 1
	}
	if f, ok := err.(*api.Fault); ok && f.Err == api.ErrShape {
		return 2
	}
	return -1
}

// answers of all calls of the package.
func answers(s, bits string, window, d int, phrases []Phrase, copies []Copy) []any {
	parsed, err := Parse(s)
	out := []any{parsed, err}
	text, err := Text(phrases)
	out = append(out, text, err)
	slid, err := Slide(s, window)
	out = append(out, slid, err)
	text, err = Unslide(copies)
	out = append(out, text, err)
	f, err := Chance(bits)
	out = append(out, f, err)
	f, err = Weighted(bits, d)
	return append(out, f, err)
}

// P2: the same answers, however many ask at once.
func TestSideBySide(t *testing.T) {
	s := strings.Repeat("abracadabra", 9)
	phrases, copies := wantParse(s), wantSlide(s, 7)
	want := answers(s, "011010011101", 7, 3, phrases, copies)
	for i := 1; i < len(want); i += 2 {
		if want[i] != nil {
			t.Error(i, want)
		}
	}
	var all sync.WaitGroup
	for range 16 {
		all.Go(func() {
			for range 30 {
				if got := answers(s, "011010011101", 7, 3, phrases, copies); !reflect.DeepEqual(got, want) {
					t.Error(got, want)
				}
			}
		})
	}
	all.Wait()
}

// P3 and P4: what lies behind a list's length is left alone, what is handed over is only read.
func TestOnlyRead(t *testing.T) {
	phrases := []Phrase{{Next: 'a'}, {Of: 1, Next: 'b'}, {Of: 2, Last: true}, {Of: -1}, {Of: 99}}
	copies := []Copy{{Next: 'a'}, {Next: 'b'}, {Back: 2, Length: 3, Last: true}, {Back: -1}, {Length: math.MaxInt}}
	keptPhrases, keptCopies := slices.Clone(phrases), slices.Clone(copies)
	if s, err := Text(phrases[:3]); s != "aabab" || err != nil {
		t.Error(s, err)
	}
	if s, err := Unslide(copies[:3]); s != "ababa" || err != nil {
		t.Error(s, err)
	}
	if s, err := Text(phrases[:0]); s != "" || err != nil {
		t.Error(s, err)
	}
	if s, err := Unslide(copies[:0]); s != "" || err != nil {
		t.Error(s, err)
	}
	if !slices.Equal(phrases, keptPhrases) || !slices.Equal(copies, keptCopies) {
		t.Error(phrases, copies)
	}
}

// P4: what is answered is new memory, and nothing is kept.
func TestNewMemory(t *testing.T) {
	for range 3 {
		l, err := Parse("aababba")
		if !slices.Equal(l, wantParse("aababba")) || err != nil {
			t.Error(l, err)
		}
		c, err := Slide("abababc", 3)
		if !slices.Equal(c, wantSlide("abababc", 3)) || err != nil {
			t.Error(c, err)
		}
		text, err := Text(l)
		back, worse := Unslide(c)
		for i := range l[:cap(l)] {
			l[:cap(l)][i] = Phrase{Of: 7, Next: 'x', Last: true}
		}
		for i := range c[:cap(c)] {
			c[:cap(c)][i] = Copy{Back: 7, Length: 7, Next: 'x', Last: true}
		}
		if text != "aababba" || back != "abababc" || err != nil || worse != nil {
			t.Error(text, back, err, worse)
		}
	}
}

// Errors of one call are not those of another one: a place that is written over shows nowhere else.
func TestNewFaults(t *testing.T) {
	for range 2 {
		_, err := Text([]Phrase{{Next: 'a'}, {Of: 5}})
		_, worse := Unslide([]Copy{{Next: 'a'}, {Next: 'a'}, {Back: 5}})
		if !isFault(err, 1) || !isFault(worse, 2) {
			t.Error(err, worse)
			continue
		}
		err.(*api.Fault).At, worse.(*api.Fault).At = 7, 7
	}
}
