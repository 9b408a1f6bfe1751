package chain

import "demon/whole"

// folded is a chain of which states are taken out, one by one, from the last one down to the second: who would go by way of a state that is out goes straight to where one comes out of it, and takes as long. Each row and column stays as it was when its state was taken out. Nothing is ever taken away or divided, so whole numbers from 0 on will do.
type folded struct {
	weights [][]whole.Nat
	times   []whole.Nat // of each state how long it takes to leave its row, times the row's sum
	out     []whole.Nat // of each state, when it was taken out, its weights to those before it
}

// fold the chain of some states that cannot be left; from each one the first can be come to.
func fold(c [][]int, states []int) folded {
	f := folded{make([][]whole.Nat, len(states)), make([]whole.Nat, len(states)), make([]whole.Nat, len(states))}
	for i, from := range states {
		for _, k := range states {
			f.weights[i] = append(f.weights[i], whole.NatOf(uint64(c[from][k])))
		}
		f.times[i] = whole.NatOf(uint64(whole.Total(c[from])))
	}
	for s := len(states) - 1; s > 0; s-- {
		f.takeOut(s)
	}
	return f
}

// takeOut multiplies all rows that are left by one number, the weights that lead out of s: so they keep their proportions, each and among themselves.
func (f folded) takeOut(s int) {
	out := whole.NatOf(0)
	for k := range s {
		out = out.Plus(f.weights[s][k])
	}
	for i := range s {
		to := f.weights[i][s]
		for k := range s {
			f.weights[i][k] = f.weights[i][k].By(out).Plus(to.By(f.weights[s][k]))
		}
		f.times[i] = f.times[i].By(out).Plus(to.By(f.times[s]))
	}
	f.out[s] = out
}

// visits are how often one is in each state, over its row's sum, in proportion: as much comes to a state from those before it as goes out to them.
func (f folded) visits() []whole.Nat {
	now := []whole.Nat{whole.NatOf(1)}
	for s := 1; s < len(f.out); s++ {
		come := whole.NatOf(0)
		for i := range s {
			come = come.Plus(now[i].By(f.weights[i][s]))
			now[i] = now[i].By(f.out[s])
		}
		now = append(now, come)
	}
	return now
}

// steps are how many it takes in the mean from each state to the first one, over one denominator: one leaves a state for those before it, and goes on from there.
func (f folded) steps() ([]whole.Nat, whole.Nat) {
	now, den := []whole.Nat{whole.NatOf(0)}, whole.NatOf(1)
	for s := 1; s < len(f.out); s++ {
		take := f.times[s].By(den)
		for k := range s {
			take = take.Plus(now[k].By(f.weights[s][k]))
			now[k] = now[k].By(f.out[s])
		}
		now, den = append(now, take), den.By(f.out[s])
	}
	return now, den
}
