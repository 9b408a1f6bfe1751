package lempel

import (
	"strings"

	"demon/api"
	"demon/whole"
)

// share of 1: a fraction whose numbers have no bound, as only what is told has one.
type share struct{ num, den whole.Nat }

// Chance by Krichevsky and Trofimov.
func Chance(s string) (api.Frac, error) {
	if err := checkBits(s); err != nil {
		return api.Frac{}, err
	}
	return learnt(s).told()
}

// Weighted over contexts.
func Weighted(s string, d int) (api.Frac, error) {
	if d < 0 || d > api.MaxDepth {
		return api.Frac{}, api.ErrBound
	}
	if err := checkBits(s); err != nil {
		return api.Frac{}, err
	}
	row := strings.Repeat("0", d) + s
	var weigh func(context string) share
	weigh = func(context string) share {
		alone := learnt(behind(row, d, context))
		if len(context) == d {
			return alone
		}
		return alone.mean(weigh("0" + context).by(weigh("1" + context)))
	}
	return weigh("").told()
}

func checkBits(s string) error {
	if len(s) > api.MaxBits {
		return api.ErrBound
	}
	if strings.Trim(s, "01") != "" {
		return api.ErrText
	}
	return nil
}

// behind are the bits of a row, from a place on, ahead of which a context stands.
func behind(row string, from int, context string) string {
	var out []byte
	for i := from; i < len(row); i++ {
		if strings.HasSuffix(row[:i], context) {
			out = append(out, row[i])
		}
	}
	return string(out)
}

// learnt is the chance of bits; each half is told by twice the numbers, so that they are whole.
func learnt(bits string) share {
	out := share{whole.NatOf(1), whole.NatOf(1)}
	var seen [2]int
	for i := range len(bits) {
		bit := bits[i] - '0'
		out.num = out.num.Times(uint64(2*seen[bit] + 1))
		out.den = out.den.Times(uint64(2*i + 2))
		seen[bit]++
	}
	return out
}

func (a share) by(b share) share { return share{a.num.By(b.num), a.den.By(b.den)} }

func (a share) mean(b share) share {
	return share{a.num.By(b.den).Plus(b.num.By(a.den)), a.den.By(b.den).Times(2)}
}

func (a share) told() (api.Frac, error) { return whole.Told(a.num, a.den) }
