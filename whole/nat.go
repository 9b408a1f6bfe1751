package whole

import (
	"cmp"
	"math/bits"
	"strings"
)

// Nat is a number from 0 on without a bound: words of 64 bits, the lowest one first, the last one not 0. It is never changed once it is made.
type Nat []uint64

// NatOf a word.
func NatOf(word uint64) Nat {
	if word == 0 {
		return nil
	}
	return Nat{word}
}

// NatOfBits is the number that a text of 0 and 1 writes (the empty one: 0).
func NatOfBits(text string) Nat {
	text = strings.TrimLeft(text, "0")
	out := make(Nat, (len(text)+63)/64)
	for i := range len(text) {
		if place := len(text) - 1 - i; text[i] == '1' {
			out[place/64] |= 1 << (place % 64)
		}
	}
	return out
}

// Times a word.
func (a Nat) Times(word uint64) Nat {
	if word == 0 {
		return nil
	}
	out := make(Nat, 0, len(a)+1)
	var carry uint64
	for _, w := range a {
		high, low := bits.Mul64(w, word)
		low, over := bits.Add64(low, carry, 0)
		out = append(out, low)
		carry = high + over
	}
	if carry != 0 {
		out = append(out, carry)
	}
	return out
}

// Plus is the sum.
func (a Nat) Plus(b Nat) Nat {
	if len(a) < len(b) {
		a, b = b, a
	}
	out := make(Nat, 0, len(a)+1)
	var word, carry uint64
	for i, w := range a {
		word, carry = bits.Add64(w, b.word(i), carry)
		out = append(out, word)
	}
	if carry != 0 {
		out = append(out, carry)
	}
	return out
}

// Minus is the difference; b is at most a.
func (a Nat) Minus(b Nat) Nat {
	out := make(Nat, len(a))
	var borrow uint64
	for i, w := range a {
		out[i], borrow = bits.Sub64(w, b.word(i), borrow)
	}
	for len(out) > 0 && out[len(out)-1] == 0 {
		out = out[:len(out)-1]
	}
	return out
}

// word at a place, also behind the last one.
func (a Nat) word(at int) uint64 {
	if at < len(a) {
		return a[at]
	}
	return 0
}

// By is the product.
func (a Nat) By(b Nat) Nat {
	if len(a) == 0 || len(b) == 0 {
		return nil
	}
	out := make(Nat, len(a)+len(b))
	for i, w := range b {
		var carry uint64
		for k, x := range a {
			high, low := bits.Mul64(x, w)
			low, one := bits.Add64(low, out[i+k], 0)
			low, two := bits.Add64(low, carry, 0)
			out[i+k], carry = low, high+one+two
		}
		out[i+len(a)] = carry
	}
	if out[len(out)-1] == 0 {
		out = out[:len(out)-1]
	}
	return out
}

// TimesPower is a times the power of a word (0 to the power of 0 is 1). Factors are gathered in one word while they fit, as each pass over a costs its whole length.
func (a Nat) TimesPower(word uint64, power int) Nat {
	gathered := uint64(1)
	for range power {
		high, low := bits.Mul64(gathered, word)
		if high != 0 {
			a, low = a.Times(gathered), word
		}
		gathered = low
	}
	return a.Times(gathered)
}

// Bits of a: 0 has none.
func (a Nat) Bits() int {
	if len(a) == 0 {
		return 0
	}
	return 64*(len(a)-1) + bits.Len64(a[len(a)-1])
}

// Shift is a times 2 to the power of by, which is not below 0.
func (a Nat) Shift(by int) Nat {
	if len(a) == 0 {
		return nil
	}
	out := make(Nat, by/64, by/64+len(a)+1)
	return append(out, a.Times(1<<(by%64))...)
}

// Cmp is -1, 0 or 1, as a is below b, b, or above it.
func (a Nat) Cmp(b Nat) int {
	if len(a) != len(b) {
		return cmp.Compare(len(a), len(b))
	}
	for i := len(a) - 1; i >= 0; i-- {
		if a[i] != b[i] {
			return cmp.Compare(a[i], b[i])
		}
	}
	return 0
}

// FloorLog is the greatest k with 2 to the power of k at most a over b; neither is 0.
func FloorLog(a, b Nat) int {
	k := a.Bits() - b.Bits()
	if a.Shift(max(0, -k)).Cmp(b.Shift(max(0, k))) < 0 {
		return k - 1
	}
	return k
}
