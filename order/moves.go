package order

import (
	"slices"

	"demon/api"
)

// Move of so much from one to another.
type Move struct{ From, To, Size int }

// Moves from p to q.
func Moves(p, q []int) ([]Move, error) {
	above, err := Above(p, q)
	if err != nil {
		return nil, err
	}
	if !above {
		return nil, api.ErrNone
	}
	places, over := falling(p), surplus(p, q)
	var out []Move
	// Each move ends what one number has too much, or what one lacks, and the last one ends both: so there are less of them than numbers. What is given is never more than the distance of the two, as the one that gives is to stay at least as great as the other one becomes; and there is always enough ahead, as p majorizes q.
	from := 0
	for to := range over {
		for over[to] < 0 {
			if over[from] <= 0 {
				from++
				continue
			}
			size := min(over[from], -over[to])
			out = append(out, Move{From: places[from], To: places[to], Size: size})
			over[from] -= size
			over[to] += size
		}
	}
	return out, nil
}

// Apply moves.
func Apply(p []int, l []Move) ([]int, error) {
	if len(p) > api.MaxSize || len(l) > api.MaxText {
		return nil, api.ErrBound
	}
	if slices.ContainsFunc(p, isNoNumber) {
		return nil, api.ErrShape
	}
	out := slices.Clone(p)
	for at, m := range l {
		if !m.fits(out) {
			return nil, &api.Fault{At: at, Err: api.ErrOrder}
		}
		out[m.From] -= m.Size
		out[m.To] += m.Size
	}
	return out, nil
}

func (m Move) fits(l []int) bool {
	return isPlace(l, m.From) && isPlace(l, m.To) && m.From != m.To && m.Size >= 0 && m.Size <= l[m.From]-l[m.To]
}

func isPlace(l []int, i int) bool { return i >= 0 && i < len(l) }
