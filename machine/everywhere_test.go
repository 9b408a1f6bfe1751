package machine

// P1 to P4, as far as they speak of package machine.

import (
	"errors"
	"math"
	"strings"
	"sync"
	"testing"

	"demon/api"
)

func wildTexts() []string {
	out := []string{"", "é", "\xff\xfe", "\x00", "𝟘𝟙", "٠١", "０１", " ", "01 ", "\n", "+1", "-1", "0x1", "<nil>"}
	for _, s := range []string{"0", "1", "01", "10", "2", "100", "00100", "111", "01\x00", "\xc3"} {
		for _, n := range []int{1, 2, 3, 4, 5, 8, 9, 12, 13, 14, 20, 21, 40, 41, 42, 100000} {
			out = append(out, strings.Repeat(s, n))
		}
	}
	return out
}

// onlySigns 0 and 1, at most so many of them.
func onlySigns(s string, most int) bool {
	return len(s) <= most && strings.Trim(s, "01") == ""
}

// P1 and P3: every call ends without a panic; with an error there is nothing else, and only where too much is written it has a place.
func TestWild(t *testing.T) {
	for _, x := range wildTexts() {
		s, err := Run(x)
		var f *api.Fault
		if errors.As(err, &f) {
			if f.Err != api.ErrBound || f.At < 0 || f.At >= 20 || s != "" {
				t.Error(x, s, err)
			}
		} else if err != nil && (s != "" || err != api.ErrText && err != api.ErrBound) || !onlySigns(s, api.MaxOutput) {
			t.Error(x, s, err)
		}
		p, err := Least(x)
		if err != nil && (p != "" || err != api.ErrText && err != api.ErrBound) || (err == nil) != onlySigns(x, 8) || !onlySigns(p, 16) {
			t.Error(x, p, err)
		}
	}
	for _, n := range []int{math.MinInt, math.MinInt32, -17, -1, 17, 24, 40, math.MaxInt32, 1 << 62, math.MaxInt} {
		if k, err := Many(n); k != 0 || err != api.ErrBound {
			t.Error(n, k, err)
		}
	}
}

// P2: the same answers, however many ask at once, and again and again.
func TestSideBySide(t *testing.T) {
	var all sync.WaitGroup
	for range 16 {
		all.Go(func() {
			for range 10 {
				if s, err := Run("00010110111001"); s != "0011" || err != nil {
					t.Error(s, err)
				}
				if _, err := Run("0100100100100100"); !sameError(err, &api.Fault{At: 5, Err: api.ErrBound}) {
					t.Error(err)
				}
				if p, err := Least("11111111"); p != "0101100100" || err != nil {
					t.Error(p, err)
				}
				if k, err := Many(7); k != 19 || err != nil {
					t.Error(k, err)
				}
			}
		})
	}
	all.Wait()
}

// P4: a fault is new memory: what is written into one shows in no other.
func TestNewFaults(t *testing.T) {
	for range 3 {
		_, err := Run("0100100100100100")
		var f *api.Fault
		if !errors.As(err, &f) || f.At != 5 || f.Err != api.ErrBound {
			t.Fatal(err)
		}
		f.At, f.Err = -1, nil
	}
}
