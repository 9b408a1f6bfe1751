package ising

// What the tests hold the package against: the document's words, state by state, set by set, place by place; sums by math/big.

import (
	"math/big"
	"math/bits"
	"math/rand"
	"slices"

	"demon/api"
)

func sameSystem(a, b System) bool { return a.N == b.N && slices.Equal(a.Bonds, b.Bonds) }

func many[T any](n int, x T) []T { return slices.Repeat([]T{x}, n) }

func frac(num, den int) api.Frac { return api.Frac{Num: num, Den: den} }

// path of n spins, and ring of n, which are 3 at least.
func path(n int) System {
	s := System{N: n}
	for i := 1; i < n; i++ {
		s.Bonds = append(s.Bonds, [2]int{i - 1, i})
	}
	return s
}

func ring(n int) System {
	s := path(n)
	s.Bonds = append(s.Bonds, [2]int{n - 1, 0})
	return s
}

// allPairs of unlike spins, each in both orders.
func allPairs(n int) [][2]int {
	var out [][2]int
	for i := range n {
		for k := range n {
			if i != k {
				out = append(out, [2]int{i, k})
			}
		}
	}
	return out
}

// eachSystem of n spins and of exactly so many bonds, which may come again and the other way round.
func eachSystem(n, bonds int, visit func(s System)) {
	pairs := allPairs(n)
	var from func(l [][2]int)
	from = func(l [][2]int) {
		if len(l) == bonds {
			visit(System{N: n, Bonds: slices.Clone(l)})
			return
		}
		for _, p := range pairs {
			from(append(l, p))
		}
	}
	from(nil)
}

func someSystem(r *rand.Rand, n, bonds int) System {
	s, pairs := System{N: n}, allPairs(n)
	if len(pairs) == 0 {
		return s
	}
	for range bonds {
		s.Bonds = append(s.Bonds, pairs[r.Intn(len(pairs))])
	}
	return s
}

// eachState: spin by spin, up or down.
func eachState(n int, visit func(up []bool)) {
	var from func(up []bool)
	from = func(up []bool) {
		if len(up) == n {
			visit(up)
			return
		}
		from(append(up, false))
		from(append(up, true))
	}
	from(make([]bool, 0, n))
}

func wantStates(s System) []int {
	out := make([]int, len(s.Bonds)+1)
	eachState(s.N, func(up []bool) {
		k := 0
		for _, b := range s.Bonds {
			if up[b[0]] != up[b[1]] {
				k++
			}
		}
		out[k]++
	})
	return out
}

// isEven: each spin has an even number of the bonds of a set.
func isEven(s System, set int) bool {
	count := make([]int, s.N)
	for i, b := range s.Bonds {
		if set>>i&1 == 1 {
			count[b[0]]++
			count[b[1]]++
		}
	}
	return !slices.ContainsFunc(count, func(n int) bool { return n%2 == 1 })
}

// wantEven of few bonds: set by set.
func wantEven(s System) []int {
	out := make([]int, len(s.Bonds)+1)
	for set := range 1 << len(s.Bonds) {
		if isEven(s, set) {
			out[bits.OnesCount(uint(set))]++
		}
	}
	return out
}

// loops: of each bond that closes one, when bonds are laid one by one, the loop with those laid ahead that join nothing that was joined.
func loops(s System) []int {
	way := make([]int, s.N) // bonds from the first spin of its part
	part := make([]int, s.N)
	for i := range part {
		part[i] = i
	}
	var out []int
	for i, b := range s.Bonds {
		through := way[b[0]] ^ way[b[1]] ^ 1<<i
		if part[b[0]] == part[b[1]] {
			out = append(out, through)
			continue
		}
		old, now := part[b[1]], part[b[0]]
		for v := range part {
			if part[v] == old {
				part[v] = now
				way[v] ^= through
			}
		}
	}
	return out
}

// wantEvenByLoops of many bonds: each even set is just one sum of loops.
func wantEvenByLoops(s System) []int {
	out, all, set := make([]int, len(s.Bonds)+1), loops(s), 0
	out[0] = 1
	for step := 1; step < 1<<len(all); step++ {
		set ^= all[bits.TrailingZeros(uint(step))]
		out[bits.OnesCount(uint(set))]++
	}
	return out
}

// wantStrip goes through the strip place by place, from above, and in each row column by column: it remembers of each column only its last spin.
func wantStrip(high, long int, ring bool) []int {
	now := map[int][]int{}
	for state := range 1 << long {
		now[state] = make([]int, long*high*2+1)
	}
	now[0][0] = 1
	for place := range high {
		for column := range long {
			now = laid(now, place, column, long, ring)
		}
	}
	bonds := (high-1)*long + high*(long-1)
	if ring {
		bonds += high
	}
	out := make([]int, bonds+1)
	for _, counts := range now {
		for k, n := range counts {
			if n > 0 {
				out[k] += n
			}
		}
	}
	return out
}

func laid(now map[int][]int, place, column, long int, ring bool) map[int][]int {
	next := map[int][]int{}
	for state := range now {
		next[state] = make([]int, len(now[state]))
	}
	for state, counts := range now {
		for spin := range 2 {
			k, to := 0, state&^(1<<column)|spin<<column
			if place > 0 && state>>column&1 != spin {
				k++
			}
			if column > 0 && to>>(column-1)&1 != spin {
				k++
			}
			if ring && column == long-1 && to&1 != spin {
				k++
			}
			for i, n := range counts {
				if n > 0 {
					next[to][i+k] += n
				}
			}
		}
	}
	return next
}

// apart: how far two spins of a strip are from each other, in columns and in places.
func apart(high, a, b int) (columns, places int) {
	return max(a/high, b/high) - min(a/high, b/high), max(a%high, b%high) - min(a%high, b%high)
}

// wantSystem of a strip: each two spins that are neighbours, without a bound; a ring's last bonds come behind.
func wantSystem(high, long int, ring bool) System {
	s := System{N: high * long}
	for a := range s.N {
		for b := a + 1; b < s.N; b++ {
			if columns, places := apart(high, a, b); columns+places == 1 {
				s.Bonds = append(s.Bonds, [2]int{a, b})
			}
		}
	}
	if ring {
		for place := range high {
			s.Bonds = append(s.Bonds, [2]int{(long-1)*high + place, place})
		}
	}
	return s
}

// corners of the small squares, each with its four spins.
func corners(high, long int) [][]int {
	var out [][]int
	for column := range long - 1 {
		for place := range high - 1 {
			v := column*high + place
			out = append(out, []int{v, v + 1, v + high, v + high + 1})
		}
	}
	return out
}

// wantFaces looks for the squares of which both ends of a bond are corners, without a bound. Only with one square the outside is the other side: ahead, if the bond leads from the square's first corner.
func wantFaces(high, long int) System {
	squares := corners(high, long)
	s := System{N: len(squares) + 1}
	for _, b := range wantSystem(high, long, false).Bonds {
		var sides []int
		for i, square := range squares {
			if slices.Contains(square, b[0]) && slices.Contains(square, b[1]) {
				sides = append(sides, i)
			}
		}
		if len(sides) == 1 && squares[sides[0]][0] == b[0] {
			sides = []int{len(squares), sides[0]}
		} else if len(sides) == 1 {
			sides = []int{sides[0], len(squares)}
		}
		s.Bonds = append(s.Bonds, [2]int{sides[0], sides[1]})
	}
	return s
}

func power(x *big.Rat, k int) *big.Rat {
	out := big.NewRat(1, 1)
	for range k {
		out.Mul(out, x)
	}
	return out
}

// sumOf over counts: what a function tells of the number, times the count.
func sumOf(counts []int, tell func(k int) *big.Rat) *big.Rat {
	out := new(big.Rat)
	for k, n := range counts {
		out.Add(out, new(big.Rat).Mul(big.NewRat(int64(n), 1), tell(k)))
	}
	return out
}

func wantMean(counts []int, f api.Frac) *big.Rat {
	x := big.NewRat(int64(f.Num), int64(f.Den))
	num := sumOf(counts, func(k int) *big.Rat { return new(big.Rat).Mul(big.NewRat(int64(k), 1), power(x, k)) })
	return num.Quo(num, sumOf(counts, func(k int) *big.Rat { return power(x, k) }))
}
