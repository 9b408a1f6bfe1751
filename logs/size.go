package logs

import (
	"math/bits"

	"demon/api"
	"demon/whole"
)

// grain: how many grains the logarithm of 2 has.
const grain = 32

// Sign of a logarithm.
func Sign(a api.Log) (int, error) {
	if err := checkPowers(a, api.MaxPower); err != nil {
		return 0, err
	}
	above, below := powers(a, 1)
	return above.Cmp(below), nil
}

// Grains: 32 times the value, rounded down.
func Grains(a api.Log) (int, error) {
	if err := checkPowers(a, api.MaxPower/grain); err != nil {
		return 0, err
	}
	above, below := powers(a, grain)
	// Rounding down ahead of dividing by a whole number changes nothing of what is rounded down behind it.
	return whole.Floor(whole.FloorLog(above, below), a.Den), nil
}

// checkPowers holds the bits of the powers that are to be compared against most. Their count fits, as there are fewer than 80000 primes; 32 times it might not, so Grains asks for a smaller most.
func checkPowers(a api.Log, most int) error {
	if err := Valid(a); err != nil {
		return err
	}
	count := 0
	for _, t := range a.L {
		count += whole.Size(t.Coef) * bits.Len(uint(t.Prime))
	}
	if count > most {
		return api.ErrBound
	}
	return nil
}

// powers are the products of the primes' powers, those with a coefficient above 0 and those with one below 0, each coefficient taken so many times.
func powers(a api.Log, times int) (above, below whole.Nat) {
	above, below = whole.NatOf(1), whole.NatOf(1)
	for _, t := range a.L {
		prime := uint64(t.Prime)
		if t.Coef > 0 {
			above = above.TimesPower(prime, t.Coef*times)
		} else {
			below = below.TimesPower(prime, -t.Coef*times)
		}
	}
	return above, below
}
