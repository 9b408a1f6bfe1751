// Package logs: logarithms, exactly: see ../shared/doc/01-logs.md.
package logs

import (
	"demon/api"
	"demon/sums"
	"demon/whole"
)

// Valid logarithm?
func Valid(a api.Log) error {
	if a.Den < 1 || a.Den > api.MaxDen {
		return api.ErrShape
	}
	common, last := a.Den, 1
	for _, t := range a.L {
		if t.Prime <= last || !validTerm(t) {
			return api.ErrShape
		}
		common, last = whole.GCD(common, t.Coef), t.Prime
	}
	if common != 1 {
		return api.ErrShape
	}
	return nil
}

func validTerm(t api.Term) bool {
	inBounds := t.Prime <= api.MaxNumber && t.Coef != 0 && t.Coef >= -api.MaxCoef && t.Coef <= api.MaxCoef
	return inBounds && whole.Prime(t.Prime)
}

// Of a fraction.
func Of(f api.Frac) (api.Log, error) {
	if !hasLog(f.Num) || !hasLog(f.Den) {
		return api.Log{}, api.ErrShape
	}
	s := sums.Over(1)
	s.Put(f.Num, 1)
	s.Put(f.Den, -1)
	return s.Told()
}

func hasLog(n int) bool { return n >= 1 && n <= api.MaxNumber }

// Add two.
func Add(a, b api.Log) (api.Log, error) {
	if err := Valid(a); err != nil {
		return api.Log{}, err
	}
	if err := Valid(b); err != nil {
		return api.Log{}, err
	}
	// A coefficient times the other one's denominator has at most 60 bits, so the sum of two fits.
	common := whole.GCD(a.Den, b.Den)
	s := sums.Over(a.Den / common * b.Den)
	s.PutTerms(a.L, b.Den/common)
	s.PutTerms(b.L, a.Den/common)
	return s.Told()
}

// Scale by a fraction.
func Scale(a api.Log, f api.Frac) (api.Log, error) {
	if err := Valid(a); err != nil {
		return api.Log{}, err
	}
	if f.Den < 1 || f.Den > api.MaxPart || f.Num < -api.MaxPart || f.Num > api.MaxPart {
		return api.Log{}, api.ErrShape
	}
	if f.Num == 0 || len(a.L) == 0 {
		return api.Log{Den: 1}, nil
	}
	return scaled(a, whole.Lowest(f.Num, f.Den))
}

// scaled is a times f, which is in its lowest terms and not 0. All that cancels is taken out ahead of multiplying: products with it might not fit, though the answer does.
func scaled(a api.Log, f api.Frac) (api.Log, error) {
	left := whole.GCD(f.Num, a.Den)
	right := f.Den
	for _, t := range a.L {
		right = whole.GCD(right, t.Coef)
	}
	num, den := f.Num/left, a.Den/left*(f.Den/right)
	if den > api.MaxDen {
		return api.Log{}, api.ErrBound
	}
	most := api.MaxCoef / whole.Size(num)
	out := api.Log{Den: den, L: make([]api.Term, 0, len(a.L))}
	for _, t := range a.L {
		coef := t.Coef / right
		if whole.Size(coef) > most {
			return api.Log{}, api.ErrBound
		}
		out.L = append(out.L, api.Term{Prime: t.Prime, Coef: coef * num})
	}
	return out, nil
}
