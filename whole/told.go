package whole

import "demon/api"

// Over is how often b, which is not 0, goes into a, and what is left; false: so often that it is no word.
func (a Nat) Over(b Nat) (uint64, Nat, bool) {
	at := a.Bits() - b.Bits()
	if at > 63 {
		return 0, nil, false
	}
	var times uint64
	for ; at >= 0; at-- {
		if part := b.Shift(at); part.Cmp(a) <= 0 {
			a = a.Minus(part)
			times |= 1 << at
		}
	}
	return times, a, true
}

// Told is num over den, which is not 0, in its lowest terms; ErrBound: a number of it is above api.MaxTold. Both numbers may be long, though what is told is short: so it is put together from how often what is left goes into what was left before, and given up as soon as it is too great (it never shrinks on the way).
func Told(num, den Nat) (api.Frac, error) {
	before, now := api.Frac{Den: 1}, api.Frac{Num: 1}
	for len(den) > 0 {
		times, rest, fits := num.Over(den)
		if !fits || times > api.MaxTold || !fitsTold(int(times), now.Num, before.Num) || !fitsTold(int(times), now.Den, before.Den) {
			return api.Frac{}, api.ErrBound
		}
		next := api.Frac{Num: int(times)*now.Num + before.Num, Den: int(times)*now.Den + before.Den}
		before, now = now, next
		num, den = den, rest
	}
	return now, nil
}

// ToldAll are numbers over one den, each as Told has it; ErrBound: of one of them.
func ToldAll(nums []Nat, den Nat) ([]api.Frac, error) {
	out := make([]api.Frac, len(nums))
	for i, n := range nums {
		f, err := Told(n, den)
		if err != nil {
			return nil, err
		}
		out[i] = f
	}
	return out, nil
}

// fitsTold tells whether a times b, and c, are together at most api.MaxTold; each alone is, and none is below 0.
func fitsTold(a, b, c int) bool { return b == 0 || a <= (api.MaxTold-c)/b }

// Sum of fractions, each Den above 0, in its lowest terms; ErrBound: a number of it is above api.MaxTold in size. What is above 0 and what is below it are summed apart, as a Nat has no sign.
func Sum(l []api.Frac) (api.Frac, error) {
	up, down, den := NatOf(0), NatOf(0), NatOf(1)
	for _, f := range l {
		part, own := den.Times(uint64(Size(f.Num))), uint64(f.Den)
		up, down, den = up.Times(own), down.Times(own), den.Times(own)
		if f.Num < 0 {
			down = down.Plus(part)
		} else {
			up = up.Plus(part)
		}
	}
	if up.Cmp(down) >= 0 {
		return Told(up.Minus(down), den)
	}
	f, err := Told(down.Minus(up), den)
	return api.Frac{Num: -f.Num, Den: f.Den}, err
}
