package machine

import (
	"strings"
	"testing"

	"demon/api"
)

// P111: some programs, looked up by hand.
func TestLeast(t *testing.T) {
	for x, want := range map[string]string{
		"": "", "0": "00", "1": "01", "00": "0000", "01": "0001", "10": "0100", "11": "0101",
		"000":      "000000",
		"0000":     "0000100",
		"0101":     "0001100",
		"11111111": "0101100100",
		"00000000": "0000100100", // and not 00100100100, which is longer
	} {
		if p, err := Least(x); p != want || err != nil {
			t.Error(x, p, want, err)
		}
	}
}

// P111: every text has the first of all programs that write it, the shortest ones first.
func TestLeastAll(t *testing.T) {
	want := slowLeast()
	if len(want) != 511 {
		t.Fatal(len(want))
	}
	for x, p := range want {
		if got, err := Least(x); got != p || err != nil {
			t.Error(x, got, p, err)
		}
		if s, err := Run(p); s != x || err != nil {
			t.Error(p, s, x, err)
		}
	}
}

// P111: too long comes ahead of another byte.
func TestLeastErrors(t *testing.T) {
	for x, want := range map[string]error{
		"000000000":                api.ErrBound,
		"222222222":                api.ErrBound,
		"0000000é":                 api.ErrBound, // bytes, not runes
		strings.Repeat("1", 99999): api.ErrBound,
		"00000002":                 api.ErrText,
		"20000000":                 api.ErrText,
		"00020000":                 api.ErrText,
		"2":                        api.ErrText,
		"/":                        api.ErrText,
		"0 1":                      api.ErrText,
		"01\n":                     api.ErrText,
		"\x00":                     api.ErrText,
		"0\xff1":                   api.ErrText,
	} {
		if p, err := Least(x); p != "" || err != want {
			t.Error(x, p, err, want)
		}
	}
}

// P112: for every n, the texts counted one by one.
func TestMany(t *testing.T) {
	programs := slowLeast()
	for n := range 17 {
		want := 0
		for _, p := range programs {
			if len(p) <= n {
				want++
			}
		}
		if k, err := Many(n); k != want || err != nil {
			t.Error(n, k, want, err)
		}
	}
	for n, want := range map[int]int{0: 1, 1: 1, 2: 3, 3: 3, 4: 7, 5: 7, 6: 15, 7: 19, 16: 511} {
		if k, err := Many(n); k != want || err != nil {
			t.Error(n, k, want, err)
		}
	}
}

// P112: n below 0 or above 16.
func TestManyErrors(t *testing.T) {
	for _, n := range []int{-1, -2, -16, 17, 18, 1000, 1 << 40, -1 << 63, 1<<63 - 1} {
		if k, err := Many(n); k != 0 || err != api.ErrBound {
			t.Error(n, k, err)
		}
	}
}
