package channel

import (
	"testing"

	"demon/api"
)

func TestLeastSum(t *testing.T) {
	for _, x := range []struct {
		l         []fraction
		most, sum int
		fits      bool
	}{
		{[]fraction{{1, 1}}, 1, 1, true},
		{[]fraction{{0, 1}, {1, 2}, {1, 2}}, 2, 2, true},
		{[]fraction{{1, 2}, {1, 2}}, 1, 0, false},
		{[]fraction{{1, 2}, {1, 3}, {1, 6}}, 6, 6, true},
		{[]fraction{{1, 6}, {1, 3}, {1, 2}}, 5, 0, false},
		{[]fraction{{1, 4}, {1, 6}, {7, 12}}, 256, 12, true},
		{[]fraction{{1, 16}, {15, 16}, {0, 1}}, 16, 16, true},
		// Products that would not fit, and might seem small.
		{[]fraction{{1, 4}, {1, 1<<61 + 1}}, 256, 0, false},
		{[]fraction{{1, 16}, {1, 1<<60 + 1}}, 256, 0, false},
		{[]fraction{{1, 255}, {1, api.MaxTold}}, 256, 0, false},
		{[]fraction{{1, 1 << 20}, {1, api.MaxTold - 1}}, 1 << 20, 0, false},
	} {
		if sum, fits := leastSum(x.l, x.most); sum != x.sum || fits != x.fits {
			t.Error(x, sum, fits)
		}
	}
}
