package lempel

// P60

import (
	"errors"
	"fmt"
	"math"
	"math/rand"
	"slices"
	"strings"
	"testing"

	"demon/api"
)

func TestParse(t *testing.T) {
	for s, want := range map[string]string{
		"":              "[]",
		"a":             "[{0 97 false}]",
		"aa":            "[{0 97 false} {1 0 true}]",
		"aaa":           "[{0 97 false} {1 97 false}]",
		"aaaa":          "[{0 97 false} {1 97 false} {1 0 true}]",
		"aaaaa":         "[{0 97 false} {1 97 false} {2 0 true}]",
		"ab":            "[{0 97 false} {0 98 false}]",
		"aababba":       "[{0 97 false} {1 98 false} {2 98 false} {1 0 true}]",
		"abababa":       "[{0 97 false} {0 98 false} {1 98 false} {3 97 false}]",
		"\x00":          "[{0 0 false}]",
		"\x00\x00":      "[{0 0 false} {1 0 true}]",
		"\x00\x00\x00":  "[{0 0 false} {1 0 false}]",
		"\xff\xfe\xff":  "[{0 255 false} {0 254 false} {1 0 true}]",
		"é":             "[{0 195 false} {0 169 false}]", // bytes, not signs
		"aab\x00ab\x00": "[{0 97 false} {1 98 false} {0 0 false} {2 0 false}]",
	} {
		l, err := Parse(s)
		if got := fmt.Sprint(l); got != want || err != nil {
			t.Errorf("%q: %s %v", s, got, err)
		}
	}
}

func checkParse(t *testing.T, s string) {
	t.Helper()
	if l, err := Parse(s); !slices.Equal(l, wantParse(s)) || err != nil {
		t.Errorf("%q: %v %v", s, l, err)
	}
}

func TestAllParsed(t *testing.T) {
	for n := range 14 {
		for _, s := range allTexts("ab", n) {
			checkParse(t, s)
		}
	}
	for n := range 8 {
		for _, s := range allTexts("\x00a\xff", n) {
			checkParse(t, s)
		}
	}
}

func TestSomeParsed(t *testing.T) {
	r := rand.New(rand.NewSource(60))
	for range 300 {
		checkParse(t, someText(r, r.Intn(120), 1+r.Intn(4), byte(r.Intn(256))))
		checkParse(t, someText(r, r.Intn(120), 256, 0))
	}
}

func TestParseBound(t *testing.T) {
	for _, letter := range []string{"x", "\x00", "\xff"} {
		l, err := Parse(strings.Repeat(letter, api.MaxText))
		if err != nil || len(l) != 89 || l[88] != (Phrase{Of: 84, Last: true}) { // 1 and 2 and .. and 88 are 3916
			t.Error(l, err)
		}
		for _, n := range []int{api.MaxText + 1, 1000000} {
			if l, err := Parse(strings.Repeat(letter, n)); err != api.ErrBound || len(l) != 0 {
				t.Error(n, l, err)
			}
		}
	}
	if l, err := Parse(strings.Repeat("é", api.MaxText/2+1)); err != api.ErrBound || len(l) != 0 { // as bytes they are too many
		t.Error(l, err)
	}
}

func TestText(t *testing.T) {
	for _, c := range []struct {
		l    []Phrase
		want string
	}{
		{nil, ""},
		{[]Phrase{}, ""},
		{[]Phrase{{0, 'a', false}, {1, 'b', false}, {2, 'b', false}, {1, 0, true}}, "aababba"},
		{[]Phrase{{0, 0, false}}, "\x00"},
		{[]Phrase{{0, 0xe9, false}, {1, 0xff, false}, {2, 0, true}}, "\xe9\xe9\xff\xe9\xff"},
		// What no text is parsed into is a text all the same.
		{[]Phrase{{0, 'a', false}, {0, 'a', false}, {2, 'b', false}, {1, 'b', false}}, "aaabab"},
		{[]Phrase{{0, 'a', false}, {0, 'b', false}, {0, 'a', false}, {3, 0, true}}, "abaa"},
		{[]Phrase{{0, 'a', false}, {1, 0, false}, {2, 0, false}}, "aa\x00a\x00\x00"},
	} {
		if got, err := Text(c.l); got != c.want || err != nil {
			t.Errorf("%v: %q %v", c.l, got, err)
		}
	}
}

func TestTextFaults(t *testing.T) {
	a := Phrase{Next: 'a'}
	for _, c := range []struct {
		l  []Phrase
		at int
	}{
		{[]Phrase{{Of: 1, Next: 'a'}}, 0},
		{[]Phrase{{Of: -1, Next: 'a'}}, 0},
		{[]Phrase{{Of: math.MinInt}}, 0},
		{[]Phrase{a, {Of: math.MaxInt}}, 1},
		{[]Phrase{a, {Of: 2, Next: 'a'}}, 1},
		{[]Phrase{a, a, {Of: 3, Next: 'a'}}, 2},
		{[]Phrase{a, a, {Of: 3, Last: true}}, 2},
		{[]Phrase{a, a, {Of: -1, Last: true}}, 2},
		{[]Phrase{{Last: true}}, 0},
		{[]Phrase{a, {Last: true}}, 1},
		{[]Phrase{a, {Last: true, Next: 'a'}}, 1},
		{[]Phrase{a, {Of: 1, Last: true, Next: 'a'}}, 1},
		{[]Phrase{a, {Of: 1, Last: true, Next: 255}}, 1},
		{[]Phrase{a, {Of: 1, Last: true}, a}, 1},
		{[]Phrase{a, {Of: 1, Last: true}, {Of: 1, Last: true}}, 1},
		{[]Phrase{a, {Of: 1, Last: true}, {Of: 9}}, 1},
		{[]Phrase{a, {Of: 9}, {Of: 1, Last: true}, {Of: -1}}, 1},
		{append(slices.Repeat([]Phrase{a}, api.MaxText-1), Phrase{Of: api.MaxText}), api.MaxText - 1},
	} {
		if got, err := Text(c.l); !isFault(err, c.at) || !errors.Is(err, api.ErrShape) || got != "" {
			t.Errorf("%v: %q %v", c.l, got, err)
		}
	}
}

// growing phrases, of 1 byte, of 2, and so on.
func growing(n int) []Phrase {
	var out []Phrase
	for i := range n {
		out = append(out, Phrase{Of: i, Next: 'a'})
	}
	return out
}

func TestTextBound(t *testing.T) {
	a := Phrase{Next: 'a'}
	full := append(growing(88), slices.Repeat([]Phrase{a}, 84)...) // 3916 bytes, and 84
	for _, c := range []struct {
		name string
		l    []Phrase
		err  error
	}{
		{"as many phrases as can be", slices.Repeat([]Phrase{a}, api.MaxText), nil},
		{"one more", slices.Repeat([]Phrase{a}, api.MaxText+1), api.ErrBound},
		{"one more, the first one a fault", append([]Phrase{{Of: 7}}, slices.Repeat([]Phrase{a}, api.MaxText)...), api.ErrBound},
		{"as many bytes as can be", full, nil},
		{"one more byte", append(slices.Clone(full), a), api.ErrBound},
		{"one more byte, by the last one", append(slices.Clone(full), Phrase{Of: 1, Last: true}), api.ErrBound},
		{"as many bytes, by the last one", append(growing(88), Phrase{Of: 84, Last: true}), nil},
		{"too many, by the last one", append(growing(88), Phrase{Of: 85, Last: true}), api.ErrBound},
		{"far more", growing(api.MaxText), api.ErrBound},
	} {
		got, err := Text(c.l)
		if err != c.err || err != nil && got != "" || err == nil && got != strings.Repeat("a", api.MaxText) {
			t.Error(c.name, len(got), err)
		}
	}
	// A fault is told ahead of too many bytes, wherever it stands.
	if got, err := Text(append(growing(100), Phrase{Of: 101})); !isFault(err, 100) || got != "" {
		t.Error(got, err)
	}
	if got, err := Text(append(growing(api.MaxText-1), Phrase{Last: true})); !isFault(err, api.MaxText-1) || got != "" {
		t.Error(got, err)
	}
}

// somePhrases, most of them right.
func somePhrases(r *rand.Rand) []Phrase {
	l := make([]Phrase, r.Intn(12))
	for i := range l {
		l[i] = Phrase{Of: r.Intn(i + 1), Next: byte('a' + r.Intn(2))}
		switch r.Intn(40) {
		case 0:
			l[i].Of = i + 1
		case 1:
			l[i].Of = -1
		case 2:
			l[i].Last = true
		case 3:
			l[i].Last, l[i].Next = true, 0
		}
		if i == len(l)-1 && r.Intn(2) == 0 {
			l[i].Last, l[i].Next = true, byte(r.Intn(4)/3)
		}
	}
	return l
}

func TestSomePhrases(t *testing.T) {
	r := rand.New(rand.NewSource(61))
	faults := 0
	for range 20000 {
		l := somePhrases(r)
		want, bad := wantText(l)
		got, err := Text(l)
		if got != want || bad < 0 && err != nil || bad >= 0 && !isFault(err, bad) {
			t.Errorf("%v: %q %v, want %q %d", l, got, err, want, bad)
		}
		if bad >= 0 {
			faults++
		}
	}
	if faults < 4000 || faults > 16000 {
		t.Error("one-sided:", faults)
	}
}
