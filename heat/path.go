package heat

import (
	"demon/api"
	"demon/whole"
)

// Chance and gain of a path.
func Chance(p Process, path []int) (c, gain api.Frac, err error) {
	if err := pathError(p, path); err != nil {
		return api.Frac{}, api.Frac{}, err
	}
	all, gained := one().pick(p.Weights[0], path[0]), one()
	for t := range len(p.Steps) {
		from, to := path[t], path[t+1]
		all = all.pick(p.Steps[t][from], to)
		gained = gained.times(p.Weights[t+1][from], p.Weights[t][from])
	}
	return all.told(), gained.told(), nil
}

// Reverse chance of a path.
func Reverse(p Process, path []int) (api.Frac, error) {
	if err := pathError(p, path); err != nil {
		return api.Frac{}, err
	}
	last := len(p.Steps)
	all := one().pick(p.Weights[last], path[last])
	for t := range last {
		all = all.pick(p.Steps[t][path[t+1]], path[t])
	}
	return all.told(), nil
}

// pathError is Valid's, or what is wrong with the path.
func pathError(p Process, path []int) error {
	if err := Valid(p); err != nil {
		return err
	}
	if len(path) != len(p.Weights) {
		return &api.Fault{At: len(path), Err: api.ErrShape}
	}
	for t, state := range path {
		if state < 0 || state >= len(p.Weights[t]) {
			return &api.Fault{At: t, Err: api.ErrShape}
		}
	}
	return nil
}

// product of fractions along a path, num over den. None of it comes near api.MaxTold, so no bound is looked at: there are at most four steps, with sums of rows of at most 2^12 and weights below 2^10, and at one end a list of weights whose sum is below 2^12: 60 bits in all.
type product struct{ num, den int }

func one() product { return product{1, 1} }

func (f product) times(num, den int) product { return product{f.num * num, f.den * den} }

// pick is times the chance of the i-th of weights.
func (f product) pick(w []int, i int) product { return f.times(w[i], whole.Total(w)) }

func (f product) told() api.Frac { return whole.Lowest(f.num, f.den) }
