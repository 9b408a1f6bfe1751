package heat

import (
	"slices"

	"demon/api"
	"demon/dist"
	"demon/whole"
)

const (
	mostLegs = 40
	mostPart = 1000 // numbers of a fraction, in size
)

// Leg of an engine: heat that comes in, at a temperature.
type Leg struct{ Heat, At api.Frac }

// Round of an engine.
func Round(l []Leg) (work, entropy api.Frac, err error) {
	if len(l) > mostLegs {
		return api.Frac{}, api.Frac{}, api.ErrBound
	}
	if slices.ContainsFunc(l, isNoLeg) {
		return api.Frac{}, api.Frac{}, api.ErrShape
	}
	heats, quotients := make([]api.Frac, len(l)), make([]api.Frac, len(l))
	for i, leg := range l {
		heats[i] = leg.Heat
		quotients[i] = api.Frac{Num: leg.Heat.Num * leg.At.Den, Den: leg.Heat.Den * leg.At.Num}
	}
	if work, err = whole.Sum(heats); err != nil {
		return api.Frac{}, api.Frac{}, err
	}
	if entropy, err = whole.Sum(quotients); err != nil {
		return api.Frac{}, api.Frac{}, err
	}
	return work, entropy, nil
}

func isNoLeg(l Leg) bool {
	return !whole.IsLowest(l.Heat, mostPart) || !whole.IsLowest(l.At, mostPart) || l.At.Num < 1
}

// Erase what has weights.
func Erase(w []int) (api.Log, error) { return dist.Entropy(w) }
