package walks

// What the tests hold the package against: the document's words, by equations of math/big and by sets of wires one by one.

import (
	"math"
	"math/big"
	"math/rand"
	"slices"
	"testing"

	"demon/api"
)

func many[T any](n int, x T) []T { return slices.Repeat([]T{x}, n) }

func frac(num, den int) api.Frac { return api.Frac{Num: num, Den: den} }

// fracs of two numbers each.
func fracs(numbers ...int) []api.Frac {
	var out []api.Frac
	for f := range slices.Chunk(numbers, 2) {
		out = append(out, frac(f[0], f[1]))
	}
	return out
}

func rat(n int) *big.Rat { return big.NewRat(int64(n), 1) }

func ratOf(f api.Frac) *big.Rat { return big.NewRat(int64(f.Num), int64(f.Den)) }

func plus(a, b *big.Rat) *big.Rat { return new(big.Rat).Add(a, b) }

func times(a, b *big.Rat) *big.Rat { return new(big.Rat).Mul(a, b) }

// tellable: are both numbers at most MaxTold?
func tellable(r *big.Rat) bool {
	most := big.NewInt(api.MaxTold)
	return r.Num().CmpAbs(most) <= 0 && r.Denom().Cmp(most) <= 0
}

// checkFrac: just that one, in its lowest terms; or, if it cannot be told, ErrBound and nothing else. It answers whether it could be told.
func checkFrac(t *testing.T, what any, f api.Frac, err error, want *big.Rat) bool {
	t.Helper()
	if !tellable(want) {
		if err != api.ErrBound || f != (api.Frac{}) {
			t.Error(what, f, err, "want", want)
		}
		return false
	}
	if err != nil || int64(f.Num) != want.Num().Int64() || int64(f.Den) != want.Denom().Int64() {
		t.Error(what, f, err, "want", want)
	}
	return true
}

// checkFracs: all of them, or, if one cannot be told, ErrBound and nothing else.
func checkFracs(t *testing.T, what any, l []api.Frac, err error, want []*big.Rat) bool {
	t.Helper()
	if !slices.ContainsFunc(want, func(r *big.Rat) bool { return !tellable(r) }) {
		if err != nil || len(l) != len(want) {
			t.Error(what, l, err, "want", want)
			return true
		}
		for i, f := range l {
			checkFrac(t, what, f, err, want[i])
		}
		return true
	}
	if err != api.ErrBound || len(l) != 0 {
		t.Error(what, l, err, "want", want)
	}
	return false
}

// net of wires, three numbers each.
func net(n int, numbers ...int) Net {
	g := Net{N: n}
	for w := range slices.Chunk(numbers, 3) {
		g.Wires = append(g.Wires, Wire{w[0], w[1], w[2]})
	}
	return g
}

// path of vertices one behind the other; of a conductance above 1000 there are more wires.
func path(conductances ...int) Net {
	g := Net{N: 1}
	for _, c := range conductances {
		for ; c > 0; c -= 1000 {
			g.Wires = append(g.Wires, Wire{g.N - 1, g.N, min(c, 1000)})
		}
		g.N++
	}
	return g
}

// behind: the last vertex of a is the first one of b.
func behind(a, b Net) Net {
	g := Net{N: a.N + b.N - 1, Wires: slices.Clone(a.Wires)}
	for _, w := range b.Wires {
		g.Wires = append(g.Wires, Wire{w.A + a.N - 1, w.B + a.N - 1, w.C})
	}
	return g
}

// fully joined vertices, each two by one wire of a function's conductance.
func fully(n int, c func(a, b int) int) Net {
	g := Net{N: n}
	for b := range n {
		for a := range b {
			g.Wires = append(g.Wires, Wire{a, b, c(a, b)})
		}
	}
	return g
}

// even conductances.
func even(c int) func(a, b int) int { return func(a, b int) int { return c } }

// ring of vertices.
func ring(n, c int) Net {
	g := path(many(n-1, c)...)
	g.Wires = append(g.Wires, Wire{n - 1, 0, c})
	return g
}

func sameNet(a, b Net) bool { return a.N == b.N && slices.Equal(a.Wires, b.Wires) }

// reached from vertex 0, by some of the wires (all of whose ends are vertices).
func reached(n int, wires []Wire) int {
	seen := map[int]bool{0: true}
	for range n {
		for _, w := range wires {
			if seen[w.A] || seen[w.B] {
				seen[w.A], seen[w.B] = true, true
			}
		}
	}
	return len(seen)
}

func wantValid(g Net) error {
	if g.N < 1 || g.N > 8 || len(g.Wires) > 20 {
		return api.ErrBound
	}
	for _, w := range g.Wires {
		if min(w.A, w.B) < 0 || max(w.A, w.B) >= g.N || w.A == w.B || w.C < 1 || w.C > 1000 {
			return api.ErrShape
		}
	}
	if reached(g.N, g.Wires) < g.N {
		return api.ErrNone
	}
	return nil
}

// wantPair is Valid's, or what is wrong with two vertices.
func wantPair(g Net, a, b int) error {
	if err := wantValid(g); err != nil {
		return err
	}
	if a < 0 || a >= g.N || b < 0 || b >= g.N || a == b {
		return api.ErrShape
	}
	return nil
}

// conductance of two vertices, by all their wires.
func conductance(g Net, a, b int) int {
	sum := 0
	for _, w := range g.Wires {
		if w.A == a && w.B == b || w.A == b && w.B == a {
			sum += w.C
		}
	}
	return sum
}

// around a vertex: the conductances of all its wires, together.
func around(g Net, v int) int {
	sum := 0
	for k := range g.N {
		sum += conductance(g, v, k)
	}
	return sum
}

// solve x of equations, rows of coefficients and the right side, of which there is one.
func solve(rows [][]*big.Rat) []*big.Rat {
	n := len(rows)
	for col := range n {
		at := col + slices.IndexFunc(rows[col:], func(row []*big.Rat) bool { return row[col].Sign() != 0 })
		rows[col], rows[at] = rows[at], rows[col]
		by := new(big.Rat).Inv(rows[col][col])
		for k := range rows[col] {
			rows[col][k] = times(rows[col][k], by)
		}
		for i, row := range rows {
			if i != col && row[col].Sign() != 0 {
				less := new(big.Rat).Neg(row[col])
				for k := range row {
					row[k] = plus(row[k], times(less, rows[col][k]))
				}
			}
		}
	}
	out := make([]*big.Rat, n)
	for i, row := range rows {
		out[i] = row[n]
	}
	return out
}

// means are the numbers of all vertices, each of which is the mean of its neighbours' and a number more; but a function tells those of some vertices.
func means(g Net, more int, known func(v int) (int, bool)) []*big.Rat {
	var rows [][]*big.Rat
	for v := range g.N {
		row := many(g.N+1, rat(0))
		if x, ok := known(v); ok {
			row[v], row[g.N] = rat(1), rat(x)
		} else {
			for k := range g.N {
				row[k] = rat(-conductance(g, v, k))
			}
			row[v], row[g.N] = rat(around(g, v)), rat(around(g, v)*more)
		}
		rows = append(rows, row)
	}
	return solve(rows)
}

func wantVoltages(g Net, from, to int) []*big.Rat {
	return means(g, 0, func(v int) (int, bool) {
		switch v {
		case from:
			return 1, true
		case to:
			return 0, true
		}
		return 0, false
	})
}

func wantResistance(g Net, from, to int) *big.Rat {
	l, current := wantVoltages(g, from, to), rat(0)
	for _, w := range g.Wires {
		if w.A == from || w.B == from {
			apart := plus(l[w.A], new(big.Rat).Neg(l[w.B]))
			current = plus(current, times(rat(w.C), apart.Abs(apart)))
		}
	}
	return current.Inv(current)
}

// wantCommute: the steps from a to b, and those from b to a.
func wantCommute(g Net, a, b int) *big.Rat {
	steps := func(to int) []*big.Rat {
		return means(g, 1, func(v int) (int, bool) { return 0, v == to })
	}
	return plus(steps(b)[a], steps(a)[b])
}

// wantTrees goes through all sets of wires.
func wantTrees(g Net) *big.Int {
	sum := new(big.Int)
	var from func(chosen, left []Wire)
	from = func(chosen, left []Wire) {
		if len(chosen) == g.N-1 {
			if reached(g.N, chosen) == g.N {
				product := big.NewInt(1)
				for _, w := range chosen {
					product.Mul(product, big.NewInt(int64(w.C)))
				}
				sum.Add(sum, product)
			}
			return
		}
		for i, w := range left {
			from(append(slices.Clone(chosen), w), left[i+1:])
		}
	}
	from(nil, g.Wires)
	return sum
}

// treesBySpace are the trees of a network that has too many sets of wires: the determinant of the equations of all vertices but the first, as a product, row by row, of what each row has left of its own.
func treesBySpace(g Net) *big.Int {
	var rows [][]*big.Rat
	for v := 1; v < g.N; v++ {
		var row []*big.Rat
		for k := 1; k < g.N; k++ {
			row = append(row, rat(-conductance(g, v, k)))
		}
		row[v-1] = rat(around(g, v))
		rows = append(rows, row)
	}
	out := rat(1)
	for i, row := range rows {
		out = times(out, row[i])
		for _, below := range rows[i+1:] {
			less := new(big.Rat).Quo(below[i], row[i])
			less.Neg(less)
			for k := range row {
				below[k] = plus(below[k], times(less, row[k]))
			}
		}
	}
	return out.Num()
}

// wantShort: by the list of the vertices that are left.
func wantShort(g Net, a, b int) Net {
	var left []int
	for v := range g.N {
		if v != max(a, b) {
			left = append(left, v)
		}
	}
	number := func(v int) int {
		if v == max(a, b) {
			v = min(a, b)
		}
		return slices.Index(left, v)
	}
	out := Net{N: len(left)}
	for _, w := range g.Wires {
		if (w.A == a || w.A == b) && (w.B == a || w.B == b) {
			continue
		}
		out.Wires = append(out.Wires, Wire{number(w.A), number(w.B), w.C})
	}
	return out
}

// eachNet of n vertices with conductances from 0 (no wire) to most, of each two.
func eachNet(n, most int, visit func(g Net)) {
	pairs := fully(n, even(0)).Wires
	var from func(g Net, left []Wire)
	from = func(g Net, left []Wire) {
		if len(left) == 0 {
			g.Wires = slices.Clone(g.Wires)
			visit(g)
			return
		}
		w := left[0]
		from(g, left[1:])
		for c := 1; c <= most; c++ {
			from(Net{g.N, append(g.Wires, Wire{w.A, w.B, c})}, left[1:])
		}
	}
	from(Net{N: n}, pairs)
}

// joinedNets are those that are Valid.
func joinedNets(n, most int) []Net {
	var out []Net
	eachNet(n, most, func(g Net) {
		if wantValid(g) == nil {
			out = append(out, g)
		}
	})
	return out
}

// someNet that is Valid: a tree of vertices in disorder, and other wires.
func someNet(r *rand.Rand, n, wires, most int) Net {
	g, order := Net{N: n}, r.Perm(n)
	put := func(a, b int) {
		if r.Intn(2) == 0 {
			a, b = b, a
		}
		g.Wires = append(g.Wires, Wire{a, b, 1 + r.Intn(most)})
	}
	for i := 1; i < n; i++ {
		put(order[i], order[r.Intn(i)])
	}
	for len(g.Wires) < wires && n > 1 {
		a := r.Intn(n)
		put(a, (a+1+r.Intn(n-1))%n)
	}
	r.Shuffle(len(g.Wires), func(i, k int) { g.Wires[i], g.Wires[k] = g.Wires[k], g.Wires[i] })
	return g
}

// someNets of all sizes, with so many of each.
func someNets(seed int64, each int) []Net {
	r := rand.New(rand.NewSource(seed))
	var out []Net
	for n := 1; n <= api.MaxStates; n++ {
		for _, most := range []int{1, 2, 10, 300, 1000} {
			for range each {
				out = append(out, someNet(r, n, r.Intn(21), most))
			}
		}
	}
	return out
}

// eachPair of unlike vertices, both ways.
func eachPair(n int, visit func(a, b int)) {
	for a := range n {
		for b := range n {
			if a != b {
				visit(a, b)
			}
		}
	}
}

// justTold: of the trees, and of the resistance from the first to the last vertex, the number is MaxTold - 1, which is 3 times 715827883 times 2147483647; no part of it cancels.
func justTold() Net {
	first := net(4, 0, 1, 141, 0, 2, 256, 0, 3, 530, 1, 2, 317, 1, 3, 204, 2, 3, 901)
	second := net(4, 0, 1, 451, 0, 2, 647, 0, 3, 584, 1, 2, 412, 1, 3, 388, 2, 3, 623)
	return behind(path(3), behind(first, second))
}

// justAbove: it is MaxTold + 1, which is 5581 times 8681 times 247385 times 384773.
func justAbove() Net {
	triangle := func(x, y, z int) Net { return net(3, 0, 1, y, 1, 2, z, 0, 2, x) }
	return behind(path(5581), behind(triangle(2, 7, 963), behind(triangle(3, 284, 859), triangle(9, 562, 665))))
}

func wildNumbers() []int {
	return []int{math.MinInt, math.MinInt + 1, -1000, -1, 0, 1, 2, 7, 8, 9, 20, 1000, 1001, 4096, 1 << 32, 1 << 62, math.MaxInt}
}
