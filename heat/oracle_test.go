package heat

// What the tests hold the package against: the document's words, path by path and leg by leg; fractions by math/big.

import (
	"math/big"
	"math/rand"
	"slices"

	"demon/api"
)

func many[T any](n int, x T) []T { return slices.Repeat([]T{x}, n) }

func frac(num, den int) api.Frac { return api.Frac{Num: num, Den: den} }

func rat(num, den int) *big.Rat { return big.NewRat(int64(num), int64(den)) }

func ratOf(f api.Frac) *big.Rat { return rat(f.Num, f.Den) }

func mul(a, b *big.Rat) *big.Rat { return new(big.Rat).Mul(a, b) }

// fits: no number of it is above MaxTold in size.
func fits(f *big.Rat) bool {
	most := big.NewInt(api.MaxTold)
	return f.Num().CmpAbs(most) <= 0 && f.Denom().Cmp(most) <= 0
}

// told: f is just want, in its lowest terms.
func told(f api.Frac, want *big.Rat) bool {
	return f.Den > 0 && want.Num().Cmp(big.NewInt(int64(f.Num))) == 0 && want.Denom().Cmp(big.NewInt(int64(f.Den))) == 0
}

func sum(l []int) int {
	out := 0
	for _, n := range l {
		out += n
	}
	return out
}

func chanceOf(w []int, i int) *big.Rat { return rat(w[i], sum(w)) }

// wantKeeps: for each two states, in both orders, weight times chance is the same to and fro.
func wantKeeps(step [][]int, w []int) bool {
	for i := range w {
		for k := range w {
			there := mul(rat(w[i], 1), chanceOf(step[i], k))
			if back := mul(rat(w[k], 1), chanceOf(step[k], i)); there.Cmp(back) != 0 {
				return false
			}
		}
	}
	return true
}

func wantChance(p Process, path []int) *big.Rat {
	out := chanceOf(p.Weights[0], path[0])
	for t, step := range p.Steps {
		out.Mul(out, chanceOf(step[path[t]], path[t+1]))
	}
	return out
}

func wantGain(p Process, path []int) *big.Rat {
	out := rat(1, 1)
	for t := range p.Steps {
		out.Mul(out, rat(p.Weights[t+1][path[t]], p.Weights[t][path[t]]))
	}
	return out
}

// wantReverse is the chance of the path turned round, in the process of which lists and steps are turned round.
func wantReverse(p Process, path []int) *big.Rat {
	back := Process{Weights: slices.Clone(p.Weights), Steps: slices.Clone(p.Steps)}
	slices.Reverse(back.Weights)
	slices.Reverse(back.Steps)
	path = slices.Clone(path)
	slices.Reverse(path)
	return wantChance(back, path)
}

// eachPath of n states at so many times.
func eachPath(n, times int, visit func(path []int)) {
	var from func(path []int)
	from = func(path []int) {
		if len(path) == times {
			visit(path)
			return
		}
		for i := range n {
			from(append(path, i))
		}
	}
	from(make([]int, 0, times))
}

func wantMean(p Process) *big.Rat {
	out := new(big.Rat)
	eachPath(len(p.Weights[0]), len(p.Weights), func(path []int) {
		out.Add(out, mul(wantChance(p, path), wantGain(p, path)))
	})
	return out
}

// quotient of the sums of the last weights and the first ones.
func quotient(p Process) *big.Rat { return rat(sum(p.Weights[len(p.Weights)-1]), sum(p.Weights[0])) }

func wantRound(l []Leg) (work, entropy *big.Rat) {
	work, entropy = new(big.Rat), new(big.Rat)
	for _, leg := range l {
		work.Add(work, ratOf(leg.Heat))
		entropy.Add(entropy, new(big.Rat).Quo(ratOf(leg.Heat), ratOf(leg.At)))
	}
	return work, entropy
}

func someWeights(r *rand.Rand, n, most int) []int {
	out := make([]int, n)
	for i := range out {
		out[i] = 1 + r.Intn(most)
	}
	return out
}

// stepFor weights: between each two states as much goes one way as the other, and what is left of a state's weight, some times over, stays. Rows are then taken times a number of their own, which changes no chance.
func stepFor(r *rand.Rand, w []int) [][]int {
	over := 1 + r.Intn(4)
	step, left := make([][]int, len(w)), make([]int, len(w))
	for i := range step {
		step[i] = make([]int, len(w))
		left[i] = over * w[i]
	}
	for i := range w {
		for k := range i {
			if r.Intn(4) > 0 {
				flow := r.Intn(min(left[i], left[k]) + 1)
				step[i][k], step[k][i] = flow, flow
				left[i], left[k] = left[i]-flow, left[k]-flow
			}
		}
	}
	for i := range w {
		step[i][i] = left[i]
		times := 1 + r.Intn(4096/sum(step[i]))
		for k := range w {
			step[i][k] *= times
		}
	}
	return step
}

// afresh is the step that takes a new state by the weights alone.
func afresh(w []int) [][]int {
	out := make([][]int, len(w))
	for i := range out {
		out[i] = slices.Clone(w)
	}
	return out
}

func someProcess(r *rand.Rand, n, steps, most int) Process {
	p := Process{Weights: [][]int{someWeights(r, n, most)}}
	for range steps {
		w := someWeights(r, n, most)
		p.Weights = append(p.Weights, w)
		if r.Intn(5) == 0 {
			p.Steps = append(p.Steps, afresh(w))
		} else {
			p.Steps = append(p.Steps, stepFor(r, w))
		}
	}
	return p
}

// someProcesses of all sizes, with small weights and with great ones.
func someProcesses(seed int64, each int) []Process {
	r := rand.New(rand.NewSource(seed))
	var out []Process
	for n := 1; n <= 4; n++ {
		for steps := range 5 {
			for i := range each {
				out = append(out, someProcess(r, n, steps, []int{3, 12, 1000}[i%3]))
			}
		}
	}
	return out
}

// cloned is a process of which nothing is shared.
func cloned(p Process) Process {
	out := Process{}
	for _, w := range p.Weights {
		out.Weights = append(out.Weights, slices.Clone(w))
	}
	for _, step := range p.Steps {
		rows := make([][]int, len(step))
		for i, row := range step {
			rows[i] = slices.Clone(row)
		}
		out.Steps = append(out.Steps, rows)
	}
	return out
}

// longProcess has numbers as great as they come: rows with the sum 4093, a prime, weights of 1000 and 997.
func longProcess() Process {
	p := Process{Weights: [][]int{{1000, 999, 1000, 998}}}
	for t := range 4 {
		p.Weights = append(p.Weights, many(4, []int{997, 1000, 991, 1000}[t]))
		p.Steps = append(p.Steps, [][]int{{4090, 1, 1, 1}, {1, 4090, 1, 1}, {1, 1, 4090, 1}, {1, 1, 1, 4090}})
	}
	return p
}
