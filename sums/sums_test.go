package sums

import (
	"slices"
	"testing"

	"demon/api"
)

func told(t *testing.T, s Sum, den int, l ...api.Term) {
	t.Helper()
	if a, err := s.Told(); err != nil || a.Den != den || !slices.Equal(a.L, l) {
		t.Error(a, err)
	}
}

func TestSum(t *testing.T) {
	s := Over(6)
	told(t, s, 1)
	s.Put(1, 5)
	told(t, s, 1)
	s.Put(12, 3)
	told(t, s, 2, api.Term{Prime: 2, Coef: 2}, api.Term{Prime: 3, Coef: 1})
	s.Put(4, -3)
	told(t, s, 2, api.Term{Prime: 3, Coef: 1})
	s.Put(4091*2, 1)
	told(t, s, 6, api.Term{Prime: 2, Coef: 1}, api.Term{Prime: 3, Coef: 3}, api.Term{Prime: 4091, Coef: 1})
	s.PutTerms([]api.Term{{Prime: 4091, Coef: 1}, {Prime: 7, Coef: -3}}, -1)
	told(t, s, 6, api.Term{Prime: 2, Coef: 1}, api.Term{Prime: 3, Coef: 3}, api.Term{Prime: 7, Coef: 3})
}

func TestNoTimes(t *testing.T) {
	s := Over(1)
	for _, n := range []int{-4, 0, 1, 2, 30} {
		s.Put(n, 0)
	}
	told(t, s, 1)
}

func TestBounds(t *testing.T) {
	s := Over(api.MaxDen)
	s.PutTerms([]api.Term{{Prime: 2, Coef: 1}, {Prime: 3, Coef: -api.MaxCoef}}, 1)
	told(t, s, api.MaxDen, api.Term{Prime: 2, Coef: 1}, api.Term{Prime: 3, Coef: -api.MaxCoef})
	s.PutTerms([]api.Term{{Prime: 3, Coef: -1}}, 1)
	if a, err := s.Told(); err != api.ErrBound || a.Den != 0 || a.L != nil {
		t.Error(a, err)
	}
	s = Over(api.MaxDen + 1)
	s.Put(2, 1)
	if a, err := s.Told(); err != api.ErrBound || a.Den != 0 || a.L != nil {
		t.Error(a, err)
	}
	s.Put(2, api.MaxDen)
	told(t, s, 1, api.Term{Prime: 2, Coef: 1})
}
