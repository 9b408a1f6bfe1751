package sample

// What the tests hold the package against: trees as words of bits, rules that take every state along, tapes one by one; fractions by math/big.

import (
	"errors"
	"math/big"
	"math/rand"
	"slices"

	"demon/api"
)

func many[T any](n int, x T) []T { return slices.Repeat([]T{x}, n) }

func frac(num, den int) api.Frac { return api.Frac{Num: num, Den: den} }

func rat(num, den int) *big.Rat { return big.NewRat(int64(num), int64(den)) }

// told: f is just want, in its lowest terms.
func told(f api.Frac, want *big.Rat) bool {
	return f.Den > 0 && want.Num().Cmp(big.NewInt(int64(f.Num))) == 0 && want.Denom().Cmp(big.NewInt(int64(f.Den))) == 0
}

// isError: the error is just that one, with its place (-1: bare).
func isError(err, want error, at int) bool {
	var f *api.Fault
	if errors.As(err, &f) {
		return err == error(f) && f.Err == want && f.At == at
	}
	return err == want && at == -1
}

func sumOf(w []int) int {
	out := 0
	for _, n := range w {
		out += n
	}
	return out
}

// least power of 2 that is at least n.
func powerFor(n int) int {
	out := 1
	for out < n {
		out *= 2
	}
	return out
}

// again is told by this number in wordsOf.
const again = -1

// wordsOf weights: the words of the leaves of the tree, with their outcomes. The nodes of each depth stand in a row; leaves are taken from its front, and what is left goes on by 0 and by 1.
func wordsOf(w []int) map[string]int {
	n := powerFor(sumOf(w))
	out, nodes := map[string]int{}, []string{""}
	for digit := n; digit > 0; digit /= 2 {
		for i, x := range w {
			if x/digit%2 == 1 {
				out[nodes[0]], nodes = i, nodes[1:]
			}
		}
		if (n-sumOf(w))/digit%2 == 1 {
			out[nodes[0]], nodes = again, nodes[1:]
		}
		var next []string
		for _, node := range nodes {
			next = append(next, node+"0", node+"1")
		}
		nodes = next
	}
	if len(nodes) > 0 {
		panic("nodes are left")
	}
	return out
}

// wantDraw by words; false: there are too few bits.
func wantDraw(words map[string]int, s string) (which, used int, ok bool) {
	word := ""
	for used := 0; ; used++ {
		i, is := words[word]
		if is && i != again {
			return i, used, true
		}
		if is {
			word = ""
		}
		if used == len(s) {
			return 0, 0, false
		}
		word += s[used : used+1]
	}
}

// wantFlips: the mean length of words is what a round takes; there are as many rounds as 1 over the chance that one comes to an outcome.
func wantFlips(w []int) *big.Rat {
	mean, comes := new(big.Rat), new(big.Rat)
	for word, i := range wordsOf(w) {
		chance := rat(1, 1<<len(word))
		if i != again {
			comes.Add(comes, chance)
		}
		mean.Add(mean, chance.Mul(chance, rat(len(word), 1)))
	}
	return mean.Quo(mean, comes)
}

// eachBits: all rows of k bits.
func eachBits(k int, visit func(s string)) {
	b := make([]byte, k)
	for n := range 1 << k {
		for i := range b {
			b[i] = '0' + byte(n>>(k-1-i)&1)
		}
		visit(string(b))
	}
}

func someBits(r *rand.Rand, k int) string {
	b := make([]byte, k)
	for i := range b {
		b[i] = '0' + byte(r.Intn(2))
	}
	return string(b)
}

// smallWeights: all lists of at most so many weights, each at most most.
func smallWeights(length, most int) [][]int {
	var out [][]int
	var from func(w []int)
	from = func(w []int) {
		if sumOf(w) > 0 {
			out = append(out, slices.Clone(w))
		}
		if len(w) < length {
			for x := range most + 1 {
				from(append(slices.Clone(w), x))
			}
		}
	}
	from(nil)
	return out
}

// someWeights with a sum of at most most.
func someWeights(r *rand.Rand, most int) []int {
	for {
		w := make([]int, 1+r.Intn(16))
		left := 1 + r.Intn(most)
		for i := range w {
			w[i] = r.Intn(left + 1)
			left -= w[i]
		}
		r.Shuffle(len(w), func(i, k int) { w[i], w[k] = w[k], w[i] })
		if sumOf(w) > 0 {
			return w
		}
	}
}

// evenSum makes the sum of weights a power of 2.
func evenSum(w []int) []int {
	out := slices.Clone(w)
	out[0] += powerFor(sumOf(w)) - sumOf(w)
	return out
}

// isRising, by the document's words.
func isRising(rule []int) bool {
	for greater := range rule {
		for lesser := range greater {
			if rule[lesser] > rule[greater] {
				return false
			}
		}
	}
	return true
}

// eachRow of so many numbers below n.
func eachRow(length, n int, visit func(row []int)) {
	row := make([]int, length)
	var from func(at int)
	from = func(at int) {
		if at == length {
			visit(slices.Clone(row))
			return
		}
		for x := range n {
			row[at] = x
			from(at + 1)
		}
	}
	from(0)
}

// risings are all rising rules of n states.
func risings(n int) Rules {
	var out Rules
	eachRow(n, n, func(rule []int) {
		if isRising(rule) {
			out = append(out, rule)
		}
	})
	return out
}

func someRule(r *rand.Rand, n int) []int {
	rule := make([]int, n)
	for i := range rule {
		rule[i] = r.Intn(n)
	}
	slices.Sort(rule)
	return rule
}

// slowRule takes few states to another one, so that it takes long until all have come to one.
func slowRule(r *rand.Rand, n int) []int {
	rule := make([]int, n)
	for i := range rule {
		rule[i] = i
	}
	if at := r.Intn(n); r.Intn(2) == 0 {
		rule[at] = max(0, at-1)
	} else {
		rule[at] = min(n-1, at+1)
	}
	slices.Sort(rule)
	return rule
}

func someRules(r *rand.Rand, n, rules int) Rules {
	out := make(Rules, rules)
	slow := r.Intn(2) == 0
	for i := range out {
		if slow {
			out[i] = slowRule(r, n)
		} else {
			out[i] = someRule(r, n)
		}
	}
	return out
}

// led is where a tape leads all states; false: to more than one.
func led(r Rules, tape []int) (int, bool) {
	states := make([]int, len(r[0]))
	for i := range states {
		states[i] = i
	}
	for at := len(tape) - 1; at >= 0; at-- {
		for i, state := range states {
			states[i] = r[tape[at]][state]
		}
	}
	for _, state := range states {
		if state != states[0] {
			return 0, false
		}
	}
	return states[0], true
}

func wantPast(r Rules, tape []int) (state, used int, ok bool) {
	for steps := 1; steps <= len(tape); steps *= 2 {
		if state, one := led(r, tape[:steps]); one {
			return state, steps, true
		}
	}
	return 0, 0, false
}

func wantEnds(r Rules, steps int) ([]int, int) {
	ends, open := make([]int, len(r[0])), 0
	eachRow(steps, len(r), func(tape []int) {
		if state, one := led(r, tape); one {
			ends[state]++
		} else {
			open++
		}
	})
	return ends, open
}

// tapesOf so many rules and steps.
func tapesOf(rules, steps int) int {
	out := 1
	for range steps {
		out *= rules
	}
	return out
}
