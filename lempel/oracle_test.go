package lempel

// What the tests hold the package against: the document's words one by one, without what the package takes for granted.

import (
	"math/big"
	"math/rand"
	"strings"
	"testing"

	"demon/api"
)

// isFault: an *api.Fault itself, with this place and ErrShape bare.
func isFault(err error, at int) bool {
	f, ok := err.(*api.Fault)
	return ok && f.At == at && f.Err == api.ErrShape
}

// one byte as a text.
func one(b byte) string { return string([]byte{b}) }

// wantParse tries, of each part, all lengths, the longest first, and all phrases ahead.
func wantParse(s string) []Phrase {
	var out []Phrase
	texts := []string{""}
	for s != "" {
		of, length := 0, 0
		for n := len(s); n > length; n-- {
			for k, text := range texts {
				if text == s[:n] && n > length {
					of, length = k, n
				}
			}
		}
		if length == len(s) {
			return append(out, Phrase{Of: of, Last: true})
		}
		out = append(out, Phrase{Of: of, Next: s[length]})
		texts = append(texts, s[:length+1])
		s = s[length+1:]
	}
	return out
}

// wantText follows each phrase back to the empty one. (bad: the first that is none; -1: there is no such one.)
func wantText(l []Phrase) (text string, bad int) {
	for i, p := range l {
		switch {
		case p.Of < 0, p.Of >= i+1, p.Last && i+1 != len(l), p.Last && p.Of == 0, p.Last && p.Next != 0:
			return "", i
		}
	}
	for _, p := range l {
		part := ""
		if !p.Last {
			part = one(p.Next)
		}
		for of := p.Of; of > 0; of = l[of-1].Of {
			part = one(l[of-1].Next) + part
		}
		text += part
	}
	return text, -1
}

// wantSlide tries all lengths, the longest first, and of each the nearest place first.
func wantSlide(s string, window int) []Copy {
	var out []Copy
	for at := 0; at < len(s); {
		c := wantCopy(s, at, window)
		at += c.Length + 1
		out = append(out, c)
	}
	return out
}

func wantCopy(s string, at, window int) Copy {
	for n := len(s) - at; n > 0; n-- {
		for from := at - 1; from >= 0 && at-from <= window; from-- {
			if s[from:from+n] != s[at:at+n] {
				continue
			}
			if at+n == len(s) {
				return Copy{Back: at - from, Length: n, Last: true}
			}
			return Copy{Back: at - from, Length: n, Next: s[at+n]}
		}
	}
	return Copy{Next: s[at]}
}

// wantUnslide repeats what stood ahead as often as is needed. (bad: the first that is none; -1: there is no such one.)
func wantUnslide(l []Copy) (text string, bad int) {
	for i, c := range l {
		switch {
		case c.Back < 0, c.Back > len(text), c.Length < 0, c.Back == 0 && c.Length != 0, c.Back != 0 && c.Length == 0:
			return "", i
		case c.Last && i+1 != len(l), c.Last && c.Length == 0, c.Last && c.Next != 0:
			return "", i
		}
		if c.Back > 0 {
			text += strings.Repeat(text[len(text)-c.Back:], c.Length/c.Back+1)[:c.Length]
		}
		if !c.Last {
			text += one(c.Next)
		}
	}
	return text, -1
}

func rat(a, b int) *big.Rat { return big.NewRat(int64(a), int64(b)) }

// ratOf a fraction.
func ratOf(f api.Frac) *big.Rat { return rat(f.Num, f.Den) }

// isRat: is a fraction this number, in its lowest terms?
func isRat(f api.Frac, r *big.Rat) bool {
	return r.Num().IsInt64() && r.Denom().IsInt64() && int64(f.Num) == r.Num().Int64() && int64(f.Den) == r.Denom().Int64()
}

// wantChance: bit by bit, with halves.
func wantChance(bits string) *big.Rat {
	out := rat(1, 1)
	for i := range bits {
		kind := rat(strings.Count(bits[:i], bits[i:i+1]), 1)
		kind.Add(kind, rat(1, 2))
		out.Mul(out, kind.Quo(kind, rat(i+1, 1)))
	}
	return out
}

// wantWeighted by trees: w of the empty context is the mean over all trees of contexts of the product of e of their leaves, each tree halved once for each vertex above depth d.
func wantWeighted(bits string, d int) *big.Rat {
	sum := new(big.Rat)
	for _, tree := range trees("", d) {
		part := rat(1, 1)
		for _, leaf := range tree.leaves {
			part.Mul(part, wantChance(wantBehind(bits, leaf)))
		}
		sum.Add(sum, part.Mul(part, rat(1, 1<<tree.halves)))
	}
	return sum
}

// wantBehind asks of each bit for the bits ahead of it, one by one; what is ahead of all is 0.
func wantBehind(bits, context string) string {
	out := ""
	for i := range bits {
		fits := true
		for k := range context {
			bit, at := byte('0'), i-len(context)+k
			if at >= 0 {
				bit = bits[at]
			}
			fits = fits && bit == context[k]
		}
		if fits {
			out += bits[i : i+1]
		}
	}
	return out
}

// tree of contexts: its leaves, and how many of its vertices, leaves too, are not as deep as can be.
type tree struct {
	leaves []string
	halves int
}

// trees under a context that has still so many bits to go.
func trees(context string, d int) []tree {
	if d == 0 {
		return []tree{{[]string{context}, 0}}
	}
	out := []tree{{[]string{context}, 1}}
	for _, a := range trees("0"+context, d-1) {
		for _, b := range trees("1"+context, d-1) {
			leaves := append(append([]string{}, a.leaves...), b.leaves...)
			out = append(out, tree{leaves, 1 + a.halves + b.halves})
		}
	}
	return out
}

// allTexts of n of these bytes.
func allTexts(letters string, n int) []string {
	out := []string{""}
	for range n {
		var longer []string
		for _, s := range out {
			for i := range len(letters) {
				longer = append(longer, s+letters[i:i+1])
			}
		}
		out = longer
	}
	return out
}

// someText of n bytes out of so many kinds from first on, sometimes with parts that come again.
func someText(r *rand.Rand, n, kinds int, first byte) string {
	var b []byte
	again := r.Intn(2) == 0
	for len(b) < n {
		if again && len(b) > 0 && r.Intn(4) == 0 {
			from := r.Intn(len(b))
			b = append(b, b[from:from+r.Intn(len(b)-from)]...)
		}
		b = append(b, first+byte(r.Intn(kinds)))
	}
	return string(b[:n])
}

// someBits of which each is 1 by a chance of its own text.
func someBits(r *rand.Rand, n int) string {
	out, chance := "", r.Intn(101)
	for range n {
		if r.Intn(100) < chance {
			out += "1"
		} else {
			out += "0"
		}
	}
	return out
}

func TestOracles(t *testing.T) {
	for d, want := range []int{1, 2, 5, 26, 677} {
		all := trees("", d)
		sum := new(big.Rat)
		for _, tree := range all {
			sum.Add(sum, rat(1, 1<<tree.halves))
		}
		if len(all) != want || sum.Cmp(rat(1, 1)) != 0 {
			t.Error(d, len(all), sum)
		}
	}
	if got := wantBehind("0110100", "10"); got != "10" {
		t.Error(got)
	}
	if got := wantBehind("0110100", "00"); got != "01" {
		t.Error(got)
	}
	if len(allTexts("abc", 4)) != 81 {
		t.Error(allTexts("abc", 4))
	}
}
