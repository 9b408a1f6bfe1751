package arith

// P53

import (
	"fmt"
	"math"
	"math/rand"
	"strings"
	"testing"

	"demon/api"
)

type readFunc = func(string) (int, int, error)

// code is one of ELIAS' codes, and its words made in another way.
type code struct {
	name  string
	write func(int) (string, error)
	read  readFunc
	want  func(int) string
}

func codes() []code {
	return []code{
		{"gamma", Gamma, ReadGamma, wantGamma},
		{"delta", Delta, ReadDelta, wantDelta},
		{"omega", Omega, ReadOmega, wantOmega},
	}
}

// wantGamma writes a number with as many zeros ahead as fill it up to twice its digits, less 1.
func wantGamma(n int) string {
	count := len(fmt.Sprintf("%b", n))
	return fmt.Sprintf("%0*b", 2*count-1, n)
}

func wantDelta(n int) string {
	count := len(fmt.Sprintf("%b", n))
	return wantGamma(count) + fmt.Sprintf("%b", n)[1:]
}

func wantOmega(n int) string {
	var groups func(n int) string
	groups = func(n int) string {
		if n <= 1 {
			return ""
		}
		return groups(len(fmt.Sprintf("%b", n))-1) + fmt.Sprintf("%b", n)
	}
	return groups(n) + "0"
}

// numbers: all small ones, those around powers of 2, the greatest ones, and some.
func numbers() []int {
	var out []int
	for n := 1; n <= 3000; n++ {
		out = append(out, n)
	}
	for power := 12; power < 30; power++ {
		out = append(out, 1<<power-1, 1<<power, 1<<power+1)
	}
	r := rand.New(rand.NewSource(53))
	for range 2000 {
		out = append(out, 3001+r.Intn(1000000000-3001)>>r.Intn(17))
	}
	return append(out, 999999998, 999999999, 1000000000)
}

func TestWords(t *testing.T) {
	for _, c := range []struct {
		n                   int
		gamma, delta, omega string
	}{
		{1, "1", "1", "0"},
		{2, "010", "0100", "100"},
		{3, "011", "0101", "110"},
		{4, "00100", "01100", "101000"},
		{5, "00101", "01101", "101010"},
		{7, "00111", "01111", "101110"},
		{8, "0001000", "00100000", "1110000"},
		{15, "0001111", "00100111", "1111110"},
		{16, "000010000", "001010000", "10100100000"},
		{17, "000010001", "001010001", "10100100010"},
		{100, "0000001100100", "00111100100", "1011011001000"},
		{1000000000, zeros(29) + "111011100110101100101000000000", "000011110" + "11011100110101100101000000000", "10" + "100" + "11101" + "111011100110101100101000000000" + "0"},
	} {
		a, bad := Gamma(c.n)
		b, worse := Delta(c.n)
		o, err := Omega(c.n)
		if a != c.gamma || b != c.delta || o != c.omega || bad != nil || worse != nil || err != nil {
			t.Error(c, a, b, o, bad, worse, err)
		}
	}
}

// Each number has its word, and that is read again, whatever lies behind it.
func TestAllWords(t *testing.T) {
	for _, c := range codes() {
		for i, n := range numbers() {
			word, err := c.write(n)
			if word != c.want(n) || err != nil {
				t.Error(c.name, n, word, err)
			}
			behind := []string{"", "0", "1", "x", "\xff", zeros(40), ones(40), strings.Repeat("é", 1900)}
			if i > 200 {
				behind = behind[i%len(behind):][:1]
			}
			for _, b := range behind {
				if got, length, err := c.read(word + b); got != n || length != len(word) || err != nil {
					t.Error(c.name, n, word, b, got, length, err)
				}
			}
		}
	}
}

// A word's part is none, nor is one in which another byte stands.
func TestCutWords(t *testing.T) {
	for _, c := range codes() {
		for _, n := range []int{1, 2, 3, 4, 5, 8, 31, 32, 100, 65535, 65536, 1<<29 - 1, 1 << 29, 1000000000} {
			word := c.want(n)
			for i := range word {
				for _, text := range []string{word[:i], word[:i] + "x" + word[i:], word[:i] + "2" + word[i+1:], word[:i] + "\x00" + word[i:], word[:i] + "é", word[:i] + "\xb1" + word[i+1:]} {
					if got, length, err := c.read(text); got != 0 || length != 0 || err != api.ErrText {
						t.Errorf("%s of %q: %d %d %v", c.name, text, got, length, err)
					}
				}
			}
		}
	}
}

func TestNoNumbers(t *testing.T) {
	for _, c := range codes() {
		for _, n := range []int{0, -1, -2, -1000000000, math.MinInt, 1000000001, 1 << 30, 1<<31 - 1, 1 << 31, 1<<32 + 1, 1 << 62, math.MaxInt} {
			if word, err := c.write(n); word != "" || err != api.ErrBound {
				t.Error(c.name, n, word, err)
			}
		}
	}
}

// Texts are read up to MaxText bytes; beyond that nothing in them counts.
func TestLongTexts(t *testing.T) {
	for _, c := range codes() {
		for _, behind := range []string{"0", "1", "x"} {
			for _, n := range []int{1, 5, 1000000000} {
				word := c.want(n)
				text := word + strings.Repeat(behind, api.MaxText-len(word))
				if got, length, err := c.read(text); got != n || length != len(word) || err != nil {
					t.Error(c.name, n, got, length, err)
				}
				if got, length, err := c.read(text + behind); got != 0 || length != 0 || err != api.ErrBound {
					t.Error(c.name, n, got, length, err)
				}
			}
		}
		if got, length, err := c.read(strings.Repeat("x", api.MaxText+1)); got != 0 || length != 0 || err != api.ErrBound {
			t.Error(c.name, got, length, err)
		}
		if got, length, err := c.read(strings.Repeat("x", api.MaxText)); got != 0 || length != 0 || err != api.ErrText {
			t.Error(c.name, got, length, err)
		}
	}
}

type readCase struct {
	text string
	err  error
}

func checkReads(t *testing.T, read readFunc, cases []readCase) {
	t.Helper()
	for _, c := range cases {
		if n, length, err := read(c.text); n != 0 || length != 0 || err != c.err {
			t.Errorf("%q: %d %d %v, want %v", c.text, n, length, err, c.err)
		}
	}
}

// above is the digits of 10^9 and 1: thirty of them.
const above = "111011100110101100101000000001"

func TestReadGamma(t *testing.T) {
	checkReads(t, ReadGamma, []readCase{
		{"", api.ErrText},
		{"0", api.ErrText},
		{"x", api.ErrText},
		{"2", api.ErrText},
		{"0x1", api.ErrText},
		{"001", api.ErrText},
		{"0010", api.ErrText},
		{"001x0", api.ErrText},
		{zeros(29), api.ErrText},
		{zeros(30), api.ErrText},
		{zeros(30) + "x", api.ErrText},
		{zeros(31), api.ErrBound},
		{zeros(31) + "x", api.ErrBound},
		{zeros(31) + "1", api.ErrBound},
		{zeros(31) + ones(32), api.ErrBound},
		{zeros(api.MaxText), api.ErrBound},
		{zeros(29) + above, api.ErrBound},
		{zeros(29) + above + "x", api.ErrBound},
		{zeros(29) + above[:29], api.ErrText},
		{zeros(29) + above[:29] + "x", api.ErrText},
		{zeros(29) + ones(30), api.ErrBound},
		{zeros(29) + ones(29), api.ErrText},
		{zeros(30) + "1", api.ErrText},
		{zeros(30) + "1" + zeros(29), api.ErrText},
		{zeros(30) + "1" + zeros(29) + "x", api.ErrText},
		{zeros(30) + "1" + zeros(30), api.ErrBound},
		{zeros(30) + ones(31), api.ErrBound},
		{zeros(30) + ones(31) + "x", api.ErrBound},
	})
}

func TestReadDelta(t *testing.T) {
	const thirty = "000011110" // digits
	checkReads(t, ReadDelta, []readCase{
		{"", api.ErrText},
		{"0", api.ErrText},
		{"x", api.ErrText},
		{"01", api.ErrText},
		{"010", api.ErrText},
		{"010x", api.ErrText},
		{"0110", api.ErrText},
		{zeros(30), api.ErrText},
		{zeros(30) + "x", api.ErrText},
		{zeros(31), api.ErrBound},
		{zeros(31) + "x", api.ErrBound},
		{thirty, api.ErrText},
		{thirty + ones(28), api.ErrText},
		{thirty + ones(28) + "x", api.ErrText},
		{thirty + ones(29), api.ErrBound},
		{thirty + above[1:], api.ErrBound},
		{thirty + above[1:29], api.ErrText},
		{"000011111", api.ErrBound},
		{"000011111x", api.ErrBound},
		{"000011111" + zeros(30), api.ErrBound},
		{"00001111", api.ErrText},
		{"00001111x", api.ErrText},
		{"00000100000", api.ErrBound},
		{"0000010000", api.ErrText},
		{"0000010000x", api.ErrText},
		{"000001", api.ErrText},
		{zeros(29) + ones(29), api.ErrText},
		{zeros(29) + ones(30), api.ErrBound},
		{zeros(30) + "1" + zeros(29), api.ErrText},
		{zeros(30) + "1" + zeros(29) + "x", api.ErrText},
		{zeros(30) + "1" + zeros(30), api.ErrBound},
		{zeros(30) + ones(31), api.ErrBound},
	})
	if n, length, err := ReadDelta("000011101" + ones(28) + "x"); n != 1<<29-1 || length != 37 || err != nil {
		t.Error(n, length, err)
	}
	if n, length, err := ReadDelta(thirty + zeros(29)); n != 1<<29 || length != 38 || err != nil {
		t.Error(n, length, err)
	}
}

func TestReadOmega(t *testing.T) {
	const four = "10" + "100" // behind it stand five digits
	checkReads(t, ReadOmega, []readCase{
		{"", api.ErrText},
		{"x", api.ErrText},
		{"1", api.ErrText},
		{"1x", api.ErrText},
		{"10", api.ErrText},
		{"10x", api.ErrText},
		{"101", api.ErrText},
		{"10x00", api.ErrText},
		{four + "11110", api.ErrText},
		{four + "11110" + "x", api.ErrText},
		{four + "11110" + "1", api.ErrBound},
		{four + "11110" + "1x", api.ErrBound},
		{four + "11111" + "1", api.ErrBound},
		{four + "11111", api.ErrText},
		{four + "11101" + "1", api.ErrText},
		{four + "11101" + above, api.ErrText},
		{four + "11101" + above + "x", api.ErrText},
		{four + "11101" + above + "0", api.ErrBound},
		{four + "11101" + above + "1", api.ErrBound},
		{four + "11101" + above[:29], api.ErrText},
		{four + "11101" + above[:29] + "x", api.ErrText},
		{four + "11101" + ones(30) + "0", api.ErrBound},
		{four + "11101" + ones(30), api.ErrText},
		{four + "11101" + "1" + zeros(29) + "1", api.ErrBound},
		{"11" + "1111" + ones(16), api.ErrText},
		{"11" + "1111" + ones(16) + "1", api.ErrBound},
		{"11" + "1111" + ones(16) + "x", api.ErrText},
		{ones(82), api.ErrBound},
		{ones(api.MaxText), api.ErrBound},
	})
	for text, want := range map[string]int{four + "11110" + "0": 30, four + "11101" + "0": 29, four + "11111" + "0": 31, four + "11101" + "1" + zeros(29) + "0x": 1 << 29, four + "11100" + ones(29) + "01": 1<<29 - 1} {
		if n, length, err := ReadOmega(text); n != want || length != len(wantOmega(want)) || err != nil {
			t.Errorf("%q: %d %d %v", text, n, length, err)
		}
	}
}

// Every text of up to twelve bits: it has a word ahead, or ends within one: there another byte is told as the end is.
func TestAllBits(t *testing.T) {
	for _, c := range codes() {
		for length := range 13 {
			for m := range 1 << length {
				text := fmt.Sprintf("%0*b", length, m)[:length]
				n, used, err := c.read(text)
				if err == nil && (used > length || n < 1 || c.want(n) != text[:used]) || err != nil && (n != 0 || used != 0) {
					t.Errorf("%s of %q: %d %d %v", c.name, text, n, used, err)
				}
				if _, _, bad := c.read(text + "x"); bad != err {
					t.Errorf("%s of %q, and another byte: %v, %v", c.name, text, err, bad)
				}
			}
		}
	}
}
