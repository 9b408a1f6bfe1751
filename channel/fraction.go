package channel

import (
	"cmp"

	"demon/api"
	"demon/whole"
)

// fraction in its lowest terms, not below 0.
type fraction api.Frac

// compare is -1, 0 or 1, as f is below g, g, or above it. All of their numbers have at most 31 bits.
func (f fraction) compare(g fraction) int { return cmp.Compare(f.Num*g.Den, g.Num*f.Den) }

// plus is the sum. All of their numbers have at most 31 bits.
func (f fraction) plus(g fraction) fraction {
	return fraction(whole.Lowest(f.Num*g.Den+g.Num*f.Den, f.Den*g.Den))
}

// parts are weights times num over den.
func parts(w []int, num, den int) []fraction {
	out := make([]fraction, len(w))
	for i, x := range w {
		out[i] = fraction(whole.Lowest(x*num, den))
	}
	return out
}

// leastSum is the sum of the least whole numbers that have the ratios of chances, which are together 1; false: it is above most. That sum is the least number that all denominators divide: with it all come out whole, and nothing divides all of them any more, as each prime that divides it divides some denominator just as often.
func leastSum(chances []fraction, most int) (int, bool) {
	sum := 1
	for _, f := range chances {
		// Held against most ahead of multiplying, as the product might not fit.
		times := f.Den / whole.GCD(sum, f.Den)
		if times > most/sum {
			return 0, false
		}
		sum *= times
	}
	return sum, true
}

// ofSum are chances times a sum that all their denominators divide.
func ofSum(chances []fraction, sum int) []int {
	out := make([]int, len(chances))
	for i, f := range chances {
		out[i] = f.Num * (sum / f.Den)
	}
	return out
}
