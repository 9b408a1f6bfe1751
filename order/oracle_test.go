package order

// What the tests hold the package against: the document's words, list by list, permutation by permutation, point by point; fractions by math/big.

import (
	"errors"
	"math/big"
	"math/rand"
	"slices"

	"demon/api"
)

func many[T any](n int, x T) []T { return slices.Repeat([]T{x}, n) }

func frac(num, den int) api.Frac { return api.Frac{Num: num, Den: den} }

func rat(num, den int) *big.Rat { return big.NewRat(int64(num), int64(den)) }

// told: f is just want, in its lowest terms.
func told(f api.Frac, want *big.Rat) bool {
	return f.Den > 0 && want.Num().Cmp(big.NewInt(int64(f.Num))) == 0 && want.Denom().Cmp(big.NewInt(int64(f.Den))) == 0
}

// isError: the error is just that one, with its place (-1: bare).
func isError(err, want error, at int) bool {
	var f *api.Fault
	if errors.As(err, &f) {
		return err == error(f) && f.Err == want && f.At == at
	}
	return err == want && at == -1
}

func sumOf(l []int) int {
	out := 0
	for _, n := range l {
		out += n
	}
	return out
}

func columnOf(m [][]int, k int) []int {
	var out []int
	for _, row := range m {
		out = append(out, row[k])
	}
	return out
}

// eachRow of so many numbers from 0 to most.
func eachRow(length, most int, visit func(row []int)) {
	row := make([]int, length)
	var from func(at int)
	from = func(at int) {
		if at == length {
			visit(slices.Clone(row))
			return
		}
		for x := range most + 1 {
			row[at] = x
			from(at + 1)
		}
	}
	from(0)
}

func allRows(length, most int) [][]int {
	var out [][]int
	eachRow(length, most, func(row []int) { out = append(out, row) })
	return out
}

// greatest k numbers of a list, together: the most that k of them make.
func greatest(l []int, k int) int {
	most := 0
	for set := range 1 << len(l) {
		size, sum := 0, 0
		for i, n := range l {
			if set>>i&1 == 1 {
				size, sum = size+1, sum+n
			}
		}
		if size == k {
			most = max(most, sum)
		}
	}
	return most
}

func wantAbove(p, q []int) bool {
	for k := range len(p) + 1 {
		if greatest(p, k) < greatest(q, k) {
			return false
		}
	}
	return true
}

// wantAboveLong is for lists that have too many sets of numbers: by what is above each height, which is never less for p than for q.
func wantAboveLong(p, q []int) bool {
	for _, height := range slices.Concat(p, q) {
		above := 0
		for i := range p {
			above += max(0, p[i]-height) - max(0, q[i]-height)
		}
		if above < 0 {
			return false
		}
	}
	return true
}

// wantApply is the list that comes, or the place of the first wrong move.
func wantApply(p []int, l []Move) (out []int, wrong int) {
	out = slices.Clone(p)
	for at, m := range l {
		switch {
		case m.From < 0 || m.From >= len(p), m.To < 0 || m.To >= len(p), m.From == m.To, m.Size < 0, out[m.From]-out[m.To] < m.Size:
			return nil, at
		}
		out[m.From], out[m.To] = out[m.From]-m.Size, out[m.To]+m.Size
	}
	return out, -1
}

func sorted(l []int) []int { return slices.Sorted(slices.Values(l)) }

func shuffled(r *rand.Rand, l []int) []int {
	out := slices.Clone(l)
	r.Shuffle(len(out), func(i, k int) { out[i], out[k] = out[k], out[i] })
	return out
}

func someRow(r *rand.Rand, length, most int) []int {
	out := make([]int, length)
	for i := range out {
		out[i] = r.Intn(most + 1)
	}
	return out
}

// nearer is a list that a given one majorizes: pairs of numbers come nearer to one another.
func nearer(r *rand.Rand, p []int) []int {
	out := shuffled(r, p)
	for range r.Intn(2 * len(p)) {
		i, k := r.Intn(len(p)), r.Intn(len(p))
		if out[i] > out[k] {
			size := r.Intn(out[i] - out[k] + 1)
			out[i], out[k] = out[i]-size, out[k]+size
		}
	}
	return out
}

// another list with the sum of a given one, which often majorizes it.
func another(r *rand.Rand, p []int) []int {
	q := nearer(r, p)
	if r.Intn(3) == 0 {
		i, k := r.Intn(len(p)), r.Intn(len(p))
		size := r.Intn(min(q[i], api.MaxWeight-q[k]) + 1)
		q[i] -= size
		q[k] += size
	}
	return q
}

func isTable(m [][]int) bool {
	for i, row := range m {
		if len(row) != len(m) || slices.Min(row) < 0 || slices.Max(row) > api.MaxWeight {
			return false
		}
		if i == len(m)-1 {
			for k := range m {
				if sumOf(columnOf(m, k)) != sumOf(m[0]) || sumOf(m[k]) != sumOf(m[0]) {
					return false
				}
			}
		}
	}
	return len(m) > 0
}

// eachTable of n rows, all of whose rows and columns have this sum.
func eachTable(n, sum int, visit func(m [][]int)) {
	rows := slices.DeleteFunc(allRows(n, sum), func(row []int) bool { return sumOf(row) != sum })
	var from func(m [][]int)
	from = func(m [][]int) {
		for k := range n {
			if sumOf(columnOf(m, k)) > sum {
				return
			}
		}
		if len(m) == n {
			visit(copied(m))
			return
		}
		for _, row := range rows {
			from(append(m, row))
		}
	}
	from(make([][]int, 0, n))
}

func copied(m [][]int) [][]int {
	var out [][]int
	for _, row := range m {
		out = append(out, slices.Clone(row))
	}
	return out
}

// permutations of the numbers below n, in order.
func permutations(n int) [][]int {
	var out [][]int
	var from func(part []int)
	from = func(part []int) {
		if len(part) == n {
			out = append(out, slices.Clone(part))
		}
		for x := range n {
			if !slices.Contains(part, x) {
				from(append(part, x))
			}
		}
	}
	from(nil)
	return out
}

func leastOf(m [][]int, part []int) int {
	least := m[0][part[0]]
	for row, column := range part {
		least = min(least, m[row][column])
	}
	return least
}

// wantParts of a table: all permutations of its size are gone through for each one.
func wantParts(m [][]int, all [][]int) (parts [][]int, often []int) {
	m = copied(m)
	for sumOf(m[0]) > 0 {
		part := all[slices.IndexFunc(all, func(part []int) bool { return leastOf(m, part) > 0 })]
		least := leastOf(m, part)
		for row, column := range part {
			m[row][column] -= least
		}
		parts, often = append(parts, part), append(often, least)
	}
	return parts, often
}

// someTable is made of so many permutations, each up to most times.
func someTable(r *rand.Rand, n, parts, most int) [][]int {
	m := make([][]int, n)
	for i := range m {
		m[i] = make([]int, n)
	}
	for range parts {
		often := r.Intn(most + 1)
		for row, column := range r.Perm(n) {
			m[row][column] += often
		}
	}
	return m
}

func wantSpread(m [][]int, w []int) []int {
	out := make([]int, len(m))
	for k, x := range w {
		for i, n := range columnOf(m, k) {
			out[i] += x * n
		}
	}
	return out
}

// energyOf a mixture of two points at a place between.
func energyOf(a, b Point, x int) *big.Rat {
	if a.X == b.X {
		return rat(min(a.Y, b.Y), 1)
	}
	share := rat(x-a.X, b.X-a.X)
	rise := new(big.Rat).Mul(share, rat(b.Y-a.Y, 1))
	return rise.Add(rise, rat(a.Y, 1))
}

// isHull: no other point at its place is below it, or as low and ahead of it, and no two points, one on each side, have a mixture at its place that is as low.
func isHull(l []Point, i int) bool {
	for k, p := range l {
		if p.X == l[i].X && (p.Y < l[i].Y || p.Y == l[i].Y && k < i) {
			return false
		}
	}
	for _, a := range l {
		for _, b := range l {
			if a.X < l[i].X && l[i].X < b.X && energyOf(a, b, l[i].X).Cmp(rat(l[i].Y, 1)) <= 0 {
				return false
			}
		}
	}
	return true
}

func wantHull(l []Point) []int {
	var out []int
	for i := range l {
		if isHull(l, i) {
			out = append(out, i)
		}
	}
	slices.SortFunc(out, func(i, k int) int { return l[i].X - l[k].X })
	return out
}

// wantMix of all pairs of points; false: no two are around the place.
func wantMix(l []Point, hull []int, x int) (energy *big.Rat, a, b int, ok bool) {
	for _, p := range l {
		for _, q := range l {
			if p.X <= x && x <= q.X {
				if e := energyOf(p, q, x); energy == nil || e.Cmp(energy) < 0 {
					energy = e
				}
			}
		}
	}
	if energy == nil {
		return nil, 0, 0, false
	}
	for _, i := range hull {
		if l[i].X <= x {
			a = i
		}
	}
	for _, i := range slices.Backward(hull) {
		if l[i].X >= x {
			b = i
		}
	}
	return energy, a, b, true
}

func somePoints(r *rand.Rand, n, wide, high int) []Point {
	out := make([]Point, n)
	for i := range out {
		out[i] = Point{r.Intn(2*wide+1) - wide, r.Intn(2*high+1) - high}
	}
	return out
}

// bowl is a list of points in disorder, each of which is on the hull but for what is drawn besides.
func bowl(r *rand.Rand, n, others int) []Point {
	var out []Point
	for k := range n {
		x := 2*k - n
		out = append(out, Point{x, x*x - 1000})
	}
	for range others {
		x := r.Intn(2*n+1) - n
		out = append(out, Point{x, x*x - 1000 + r.Intn(4)})
	}
	r.Shuffle(len(out), func(i, k int) { out[i], out[k] = out[k], out[i] })
	return out
}
