package fold

// Packages chain and walks hold what is reckoned against their own chapters; here is what they do not ask.

import (
	"slices"
	"testing"

	"demon/whole"
)

func sameNat(a, b whole.Nat) bool { return a.Cmp(b) == 0 }

func nats(l ...uint64) []whole.Nat {
	var out []whole.Nat
	for _, n := range l {
		out = append(out, whole.NatOf(n))
	}
	return out
}

// One state alone: one is always there, it takes no step to come to it, one step to come back, and no weight to be a tree.
func TestOne(t *testing.T) {
	f := Of([][]int{{7}}, []int{0})
	visits := f.Visits()
	steps, over := f.Steps()
	num, den := f.Return()
	all, under := f.Trees()
	if !slices.EqualFunc(visits, nats(1), sameNat) || !slices.EqualFunc(steps, nats(0), sameNat) || !sameNat(over, whole.NatOf(1)) || !sameNat(num, den) || !sameNat(all, under) || len(under) == 0 {
		t.Error(visits, steps, over, num, den, all, under)
	}
}

// States that are left aside have their places all the same; the list of states may be changed afterwards.
func TestPlaces(t *testing.T) {
	c := [][]int{{1, 1, 1, 1}, {0, 0, 0, 2}, {0, 0, 5, 0}, {0, 1, 0, 1}}
	states := []int{3, 1}
	f := Of(c, states)
	states[0], states[1] = 0, 2
	visits := f.Visits()
	steps, over := f.Steps()
	// As often from 1 to 3 as from 3 to 1; each visit is over its row's sum, which is 2.
	if !slices.EqualFunc(visits, nats(0, 1, 0, 2), sameNat) || !slices.EqualFunc(steps, nats(0, 2, 0, 0), sameNat) || !sameNat(over, whole.NatOf(2)) {
		t.Error(visits, steps, over)
	}
}

// A chain that goes one way: from 2 to 1 or to 0, each as likely as its weight.
func TestAhead(t *testing.T) {
	f := Of([][]int{{1, 0, 0, 0}, {1, 0, 0, 0}, {2, 3, 0, 0}, {0, 0, 4, 1}}, []int{0, 1, 2, 3})
	chances, over := f.Ahead()
	for i, want := range []uint64{0, 5, 3, 3} {
		if !sameNat(chances[i].Times(5), over.Times(want)) {
			t.Error(i, chances, over)
		}
	}
}
