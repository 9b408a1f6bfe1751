package machine

// P113

import "testing"

func leastOf(t *testing.T, x string) string {
	t.Helper()
	p, err := Least(x)
	if err != nil {
		t.Fatal(x, err)
	}
	if s, err := Run(p); s != x || err != nil {
		t.Fatal(x, p, s, err)
	}
	return p
}

// Twice as many bytes are always enough, and of each length some text takes at least as many as it has.
func TestAlwaysLeast(t *testing.T) {
	for n := range 9 {
		short, all := 0, 0
		eachText(n, func(x string) {
			p := leastOf(t, x)
			if len(p) > 2*n {
				t.Error(x, p)
			}
			if len(p) < n {
				short++
			}
			all++
		})
		if short == all {
			t.Error(n, short, all)
		}
	}
}

// A text written twice takes at most three bytes more than the text.
func TestAlwaysTwice(t *testing.T) {
	for n := range 5 {
		eachText(n, func(x string) {
			if once, twice := leastOf(t, x), leastOf(t, x+x); len(twice) > len(once)+3 {
				t.Error(x, once, twice)
			}
		})
	}
}

// Many tells how many Least are that short.
func TestAlwaysMany(t *testing.T) {
	var lengths [17]int
	for n := range 9 {
		eachText(n, func(x string) { lengths[len(leastOf(t, x))]++ })
	}
	sum := 0
	for n, k := range lengths {
		sum += k
		if m, err := Many(n); m != sum || err != nil {
			t.Error(n, m, sum, err)
		}
	}
}
