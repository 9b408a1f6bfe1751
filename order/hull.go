package order

import (
	"cmp"
	"slices"

	"demon/api"
	"demon/whole"
)

const (
	mostPoints = 60
	mostFar    = 1000000 // numbers of a point, in size
)

// Point: a place and an energy.
type Point struct{ X, Y int }

// Hull from below.
func Hull(l []Point) ([]int, error) {
	if err := pointsError(l); err != nil {
		return nil, err
	}
	// bends upward at b, on the way from a by b to c?
	bends := func(a, b, c int) bool {
		return (l[b].X-l[a].X)*(l[c].Y-l[b].Y) > (l[c].X-l[b].X)*(l[b].Y-l[a].Y)
	}
	var out []int
	for _, i := range lowest(l) {
		for len(out) > 1 && !bends(out[len(out)-2], out[len(out)-1], i) {
			out = out[:len(out)-1]
		}
		out = append(out, i)
	}
	return out, nil
}

// pointsError is what is wrong with points.
func pointsError(l []Point) error {
	if len(l) > mostPoints {
		return api.ErrBound
	}
	if len(l) == 0 || slices.ContainsFunc(l, isNoPoint) {
		return api.ErrShape
	}
	return nil
}

func isNoPoint(p Point) bool { return isFar(p.X) || isFar(p.Y) }

// isFar looks from both sides, as the least number has no size.
func isFar(n int) bool { return n < -mostFar || n > mostFar }

// lowest points, the first one of each place, by their places.
func lowest(l []Point) []int {
	all := inOrder(len(l), func(i, k int) int {
		return cmp.Or(cmp.Compare(l[i].X, l[k].X), cmp.Compare(l[i].Y, l[k].Y))
	})
	return slices.CompactFunc(all, func(i, k int) bool { return l[i].X == l[k].X })
}

// Mix at a place.
func Mix(l []Point, x int) (energy api.Frac, a, b int, err error) {
	hull, err := Hull(l)
	if err != nil {
		return api.Frac{}, 0, 0, err
	}
	at, is := slices.BinarySearchFunc(hull, x, func(i, x int) int { return cmp.Compare(l[i].X, x) })
	if is {
		return api.Frac{Num: l[hull[at]].Y, Den: 1}, hull[at], hull[at], nil
	}
	if at == 0 || at == len(hull) {
		return api.Frac{}, 0, 0, api.ErrNone
	}
	a, b = hull[at-1], hull[at]
	return between(l[a], l[b], x), a, b, nil
}

// between two points, at a place: each has the more of the mixture, the nearer it is.
func between(a, b Point, x int) api.Frac {
	return whole.Lowest(a.Y*(b.X-x)+b.Y*(x-a.X), b.X-a.X)
}
