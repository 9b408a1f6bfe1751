package machine

import (
	"math/rand"
	"strings"
	"testing"

	"demon/api"
)

// P110: each part, alone and behind others.
func TestRun(t *testing.T) {
	for p, want := range map[string]string{
		"": "", "00": "0", "01": "1", "100": "", "101": "", "110": "", "111": "",
		"0001": "01", "0100": "10", "000101": "011",
		"0001100": "0101", "000101100": "011011", "0001100100": "01010101",
		"0001101": "10", "000101101": "110", "00010101101": "1110", "000101101101": "011",
		"0001110": "10", "000101110": "100", "000101110110": "011",
		"0001111": "0", "0001111111": "", "0001111111111": "", "11111101": "1",
		"00010110111001": "0011", // turned round, swapped, and one more
		"01100100100":    "11111111",
	} {
		if s, err := Run(p); s != want || err != nil {
			t.Error(p, s, want, err)
		}
	}
}

// P110: as many as a program may have, and as much as it may write.
func TestRunEdges(t *testing.T) {
	full := "000001100100100" // 3 times 8
	for p, want := range map[string]string{
		strings.Repeat("0", 40):                 strings.Repeat("0", 20),
		strings.Repeat("01", 20):                strings.Repeat("1", 20),
		strings.Repeat("111", 12) + "0001":      "01",
		full:                                    strings.Repeat("001", 8),
		full + "101":                            strings.Repeat("100", 8),
		full + "110":                            strings.Repeat("110", 8),
		full + "11101":                          strings.Repeat("001", 7) + "001",
		full + "11100":                          strings.Repeat("001", 7) + "000",
		full + "11101" + "111" + "111" + "0000": strings.Repeat("001", 7) + "000",
		full + "11101" + "110" + "101" + "101110": strings.Repeat("001", 8),
	} {
		if s, err := Run(p); s != want || err != nil {
			t.Error(p, s, want, err)
		}
	}
}

// P110: the errors, in their order.
func TestRunErrors(t *testing.T) {
	full := "000001100100100"
	over := func(at int) error { return &api.Fault{At: at, Err: api.ErrBound} }
	for p, want := range map[string]error{
		strings.Repeat("0", 41):                 api.ErrBound,
		strings.Repeat("2", 41):                 api.ErrBound,
		strings.Repeat("0", 39) + "é":           api.ErrBound, // bytes, not runes
		strings.Repeat("0", 100000):             api.ErrBound,
		full + "00" + strings.Repeat("0", 24):   api.ErrBound, // bare: the program is too long
		strings.Repeat("0", 38) + "é":           api.ErrText,
		strings.Repeat("0", 39):                 api.ErrText,
		"0":                                     api.ErrText,
		"1":                                     api.ErrText,
		"10":                                    api.ErrText,
		"11":                                    api.ErrText,
		"001":                                   api.ErrText,
		"0011":                                  api.ErrText,
		"1000":                                  api.ErrText,
		"2":                                     api.ErrText,
		"02":                                    api.ErrText,
		"20":                                    api.ErrText,
		"12":                                    api.ErrText,
		"102":                                   api.ErrText,
		"112":                                   api.ErrText,
		"00 01":                                 api.ErrText,
		" 00":                                   api.ErrText,
		"00\n":                                  api.ErrText,
		"0\x00":                                 api.ErrText,
		"/0":                                    api.ErrText,
		"\xff":                                  api.ErrText,
		full + "00" + "0":                       api.ErrText, // ahead of too much written
		full + "100" + "2":                      api.ErrText,
		full + "00":                             over(6),
		full + "01":                             over(6),
		full + "100":                            over(6),
		full + "00" + "111":                     over(6), // also if it is taken away again
		full + "00" + "00" + "100":              over(6), // the first of several
		full + "101" + "01":                     over(7),
		full + "111" + "00" + "00":              over(8),
		"01" + strings.Repeat("100", 5):         over(5),
		"01" + strings.Repeat("100", 12) + "00": over(5),
		strings.Repeat("00", 13) + "100":        over(13),
		strings.Repeat("01", 18) + "100":        over(18),
		"111" + "110" + "00" + "0000000000" + "100": nil,
	} {
		if s, err := Run(p); !sameError(err, want) || want != nil && s != "" {
			t.Error(p, s, err, want)
		}
	}
}

// P110: all texts of up to 14 signs, and longer programs of drawn parts, against a second way.
func TestRunAll(t *testing.T) {
	check := func(p string) {
		s, err := Run(p)
		if want, bad := slow(p); s != want || !sameError(err, bad) {
			t.Fatal(p, s, err, want, bad)
		}
	}
	for n := range 15 {
		eachText(n, check)
	}
	r := rand.New(rand.NewSource(110))
	for range 100000 {
		check(drawn(r))
	}
}
