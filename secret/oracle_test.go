package secret

// What the tests hold the package against: the document's words, cell by cell; polynomials by their powers, by math/big, or by going through all of them.

import (
	"math/big"
	"math/rand"
	"slices"

	"demon/api"
)

func many[T any](n int, x T) []T { return slices.Repeat([]T{x}, n) }

func with[T any](l []T, at int, x T) []T {
	out := slices.Clone(l)
	out[at] = x
	return out
}

func upTo(n int) []int {
	out := make([]int, n)
	for i := range out {
		out[i] = i
	}
	return out
}

// turned is the cipher of n keys that adds the key to the message.
func turned(n int, keys []int) Cipher {
	c := Cipher{Keys: keys}
	for key := range n {
		row := make([]int, n)
		for message := range row {
			row[message] = (message + key) % n
		}
		c.L = append(c.L, row)
	}
	return c
}

// eachList of n numbers from 0 to below most.
func eachList(n, most int, visit func(l []int)) {
	l := make([]int, n)
	for {
		visit(slices.Clone(l))
		at := n - 1
		for at >= 0 && l[at] == most-1 {
			l[at] = 0
			at--
		}
		if at < 0 {
			return
		}
		l[at]++
	}
}

// rowsOf n different signs below most.
func rowsOf(n, most int) [][]int {
	var out [][]int
	eachList(n, most, func(l []int) {
		if len(slices.Compact(slices.Sorted(slices.Values(l)))) == n {
			out = append(out, l)
		}
	})
	return out
}

// eachRows: all ciphers' rows of so many keys and messages, with signs below most.
func eachRows(keys, messages, most int, visit func(l [][]int)) {
	rows := rowsOf(messages, most)
	if len(rows) == 0 {
		return
	}
	eachList(keys, len(rows), func(chosen []int) {
		var l [][]int
		for _, i := range chosen {
			l = append(l, slices.Clone(rows[i]))
		}
		visit(l)
	})
}

// someCipher of so many keys and messages, with signs below most; weights up to heaviest, not all 0.
func someCipher(r *rand.Rand, keys, messages, most, heaviest int) Cipher {
	c := Cipher{Keys: someWeights(r, keys, heaviest)}
	for range keys {
		c.L = append(c.L, r.Perm(most)[:messages])
	}
	return c
}

func someWeights(r *rand.Rand, n, heaviest int) []int {
	w := make([]int, n)
	for i := range w {
		w[i] = r.Intn(heaviest + 1)
	}
	if slices.Max(w) == 0 {
		w[r.Intn(n)] = 1
	}
	return w
}

// wantWays: the weights of the keys by which the message goes to the sign.
func wantWays(c Cipher, message, sign int) int {
	sum := 0
	for key, weight := range c.Keys {
		if c.L[key][message] == sign {
			sum += weight
		}
	}
	return sum
}

func wantPerfect(c Cipher) bool {
	for sign := range api.MaxSize {
		for a := range c.L[0] {
			for b := range a {
				if wantWays(c, a, sign) != wantWays(c, b, sign) {
					return false
				}
			}
		}
	}
	return true
}

func wantTable(c Cipher, w []int) [][]int {
	greatest := slices.Max(slices.Concat(c.L...))
	var out [][]int
	for message, weight := range w {
		var row []int
		for sign := 0; sign <= greatest; sign++ {
			row = append(row, weight*wantWays(c, message, sign))
		}
		out = append(out, row)
	}
	return out
}

// primes up to the bound, by a sieve.
func primes() []int {
	var out []int
	struck := make([]int, api.MaxModulus+1)
	for n := 2; n < len(struck); n++ {
		if struck[n] == 0 {
			out = append(out, n)
		}
		for k := n; k < len(struck); k += n {
			struck[k] = 1
		}
	}
	return out
}

// wantValue of the polynomial at a place: power by power.
func wantValue(p int, coefs []int, place int) int {
	sum := new(big.Int)
	for i, coef := range coefs {
		power := new(big.Int).Exp(big.NewInt(int64(place)), big.NewInt(int64(i)), nil)
		sum.Add(sum, power.Mul(power, big.NewInt(int64(coef))))
	}
	return int(sum.Mod(sum, big.NewInt(int64(p))).Int64())
}

func wantShares(p int, coefs []int, n int) []int {
	var out []int
	for place := 1; place <= n; place++ {
		out = append(out, wantValue(p, coefs, place))
	}
	return out
}

// found: the polynomial of least degree with these values, sought among all of them; p is small.
func found(p int, at, values []int) []int {
	for length := 1; length <= len(at); length++ {
		var out []int
		eachList(length, p, func(coefs []int) {
			for i, place := range at {
				if wantValue(p, coefs, place) != values[i] {
					return
				}
			}
			out = coefs
		})
		if out != nil {
			return out
		}
	}
	return nil
}

// solved: the coefficients as what solves as many equations, by math/big.
func solved(p int, at, values []int) []int {
	mod := big.NewInt(int64(p))
	rows := make([][]*big.Int, len(at))
	for i, place := range at {
		for k := range at {
			rows[i] = append(rows[i], new(big.Int).Exp(big.NewInt(int64(place)), big.NewInt(int64(k)), mod))
		}
		rows[i] = append(rows[i], big.NewInt(int64(values[i])))
	}
	for k := range rows {
		pivot := slices.IndexFunc(rows[k:], func(row []*big.Int) bool { return row[k].Sign() != 0 })
		rows[k], rows[k+pivot] = rows[k+pivot], rows[k]
		scale(rows[k], new(big.Int).ModInverse(rows[k][k], mod), mod)
		for i, row := range rows {
			if i != k {
				takeOff(row, rows[k], new(big.Int).Set(row[k]), mod)
			}
		}
	}
	var out []int
	for _, row := range rows {
		out = append(out, int(row[len(row)-1].Int64()))
	}
	return out
}

func scale(row []*big.Int, by, mod *big.Int) {
	for _, x := range row {
		x.Mod(x.Mul(x, by), mod)
	}
}

func takeOff(row, other []*big.Int, times, mod *big.Int) {
	for i, x := range row {
		x.Mod(x.Sub(x, new(big.Int).Mul(times, other[i])), mod)
	}
}

// somePlaces: so many different ones from 1 to below p.
func somePlaces(r *rand.Rand, p, n int) []int {
	out := r.Perm(p - 1)[:n]
	for i := range out {
		out[i]++
	}
	return out
}

func someElements(r *rand.Rand, p, n int) []int {
	out := make([]int, n)
	for i := range out {
		out[i] = r.Intn(p)
	}
	return out
}

// pick the values at the places of what was shared.
func pick(shares, at []int) []int {
	var out []int
	for _, place := range at {
		out = append(out, shares[place-1])
	}
	return out
}
