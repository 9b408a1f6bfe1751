package heat

// P135

import (
	"math/rand"
	"testing"

	"demon/api"
)

func TestJarzynski(t *testing.T) {
	for _, p := range append(rightProcesses(), someProcesses(135, 300)...) {
		if f, err := Mean(p); !told(f, quotient(p)) || err != nil {
			t.Error(p, f, err)
		}
	}
}

func TestCrooks(t *testing.T) {
	for _, p := range append(rightProcesses(), someProcesses(1351, 6)...) {
		eachPath(len(p.Weights[0]), len(p.Weights), func(path []int) {
			c, gain, err := Chance(p, path)
			if err != nil {
				t.Fatal(p, path, err)
			}
			back, err := Reverse(p, path)
			if err != nil {
				t.Fatal(p, path, err)
			}
			if mul(ratOf(c), ratOf(gain)).Cmp(mul(ratOf(back), quotient(p))) != 0 {
				t.Error(p, path, c, gain, back)
			}
		})
	}
}

// checkCarnot of heat that is taken, which is above 0, and heat that is given: tells -1, 0 or 1, as the entropy is.
func checkCarnot(t *testing.T, taken, hot, given, cold api.Frac) int {
	t.Helper()
	work, entropy, err := Round([]Leg{leg(taken, hot), leg(frac(-given.Num, given.Den), cold)})
	if err != nil {
		t.Fatal(taken, hot, given, cold, err)
	}
	most := rat(1, 1)
	most.Sub(most, mul(ratOf(cold), rat(hot.Den, hot.Num)))
	most.Mul(most, ratOf(taken))
	sign := ratOf(entropy).Sign()
	// At most that, if the entropy is at most 0; just that, if it is 0; and above it, if it is above 0.
	if got := ratOf(work).Cmp(most); got != sign {
		t.Error(taken, hot, given, cold, work, entropy, most)
	}
	return sign
}

func TestCarnot(t *testing.T) {
	seen := map[int]int{}
	for hot := 2; hot <= 8; hot++ {
		for cold := 1; cold < hot; cold++ {
			for taken := 1; taken <= 24; taken++ {
				for given := 1; given <= 24; given++ {
					seen[checkCarnot(t, frac(taken, 1), frac(hot, 1), frac(given, 1), frac(cold, 1))]++
				}
			}
		}
	}
	r := rand.New(rand.NewSource(1352))
	for range 5000 {
		a, b := someLeg(r, 100), someLeg(r, 100)
		a.Heat.Num, b.Heat.Num = max(a.Heat.Num, -a.Heat.Num), max(b.Heat.Num, -b.Heat.Num)
		if a.Heat.Num == 0 || b.Heat.Num == 0 || ratOf(a.At).Cmp(ratOf(b.At)) <= 0 {
			continue
		}
		seen[checkCarnot(t, a.Heat, a.At, b.Heat, b.At)]++
	}
	if seen[-1] < 1000 || seen[0] < 100 || seen[1] < 1000 {
		t.Error(seen)
	}
}
