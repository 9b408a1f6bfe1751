package machine

// What the tests hold the package against: programs done bit by bit, and all programs gone through in order.

import (
	"errors"
	"math/rand"
	"slices"
	"strings"
	"sync"

	"demon/api"
)

// eachText of n signs 0 and 1, in order of bytes.
func eachText(n int, visit func(s string)) {
	b := make([]byte, n)
	for k := range 1 << n {
		for i := range b {
			b[i] = '0' + byte(k>>(n-1-i)&1)
		}
		visit(string(b))
	}
}

// slow is Run, by the document's words: what is written stands as a list with its last one first.
func slow(p string) (string, error) {
	if len(p) > 40 {
		return "", api.ErrBound
	}
	if strings.Count(p, "0")+strings.Count(p, "1") != len(p) {
		return "", api.ErrText
	}
	var row []int
	var fault error
	for part, at := 0, 0; at < len(p); part++ {
		word := p[at:min(at+2, len(p))]
		if p[at] == '1' {
			word = p[at:min(at+3, len(p))]
		}
		switch word {
		case "00":
			row = append([]int{0}, row...)
		case "01":
			row = append([]int{1}, row...)
		case "100":
			row = slices.Concat(row, row)
		case "101":
			slices.Reverse(row)
		case "110":
			for i, x := range row {
				row[i] = 1 - x
			}
		case "111":
			row = row[min(1, len(row)):]
		default:
			return "", api.ErrText
		}
		if len(row) > 24 && fault == nil {
			fault = &api.Fault{At: part, Err: api.ErrBound}
		}
		at += len(word)
		row = row[:min(len(row), 1000)]
	}
	if fault != nil {
		return "", fault
	}
	return told(row), nil
}

func told(row []int) string {
	var b strings.Builder
	for _, x := range slices.Backward(row) {
		b.WriteByte("01"[x])
	}
	return b.String()
}

// slowLeast holds of every text of at most 8 bytes the first program that writes it, of all programs of at most 16 bytes, the shortest first.
var slowLeast = sync.OnceValue(func() map[string]string {
	out := map[string]string{}
	for n := range 17 {
		eachText(n, func(p string) {
			s, err := slow(p)
			if _, old := out[s]; err == nil && !old && len(s) <= 8 {
				out[s] = p
			}
		})
	}
	return out
})

// sameError: both bare and one, or both faults with one place.
func sameError(a, b error) bool {
	var x, y *api.Fault
	if errors.As(a, &x) != errors.As(b, &y) {
		return false
	}
	return x == nil && a == b || x != nil && *x == *y
}

// drawn program of some parts; now and then with another byte, or cut.
func drawn(r *rand.Rand) string {
	words := []string{"00", "01", "100", "101", "110", "111"}
	p := ""
	for range r.Intn(18) {
		p += words[r.Intn(len(words))]
	}
	switch r.Intn(8) {
	case 0:
		p = p[:r.Intn(len(p)+1)]
	case 1:
		at := r.Intn(len(p) + 1)
		p = p[:at] + string("2/ \x00\xff"[r.Intn(5)]) + p[at:]
	}
	return p
}
