package arith

import (
	"strconv"
	"strings"

	"demon/api"
)

// greatest number that has words.
const greatest = 1000000000

// Gamma word of a number.
func Gamma(n int) (string, error) { return write(n, gamma) }

// Delta word of a number.
func Delta(n int) (string, error) { return write(n, delta) }

// Omega word of a number.
func Omega(n int) (string, error) { return write(n, omega) }

func write(n int, word func(int) string) (string, error) {
	if n < 1 || n > greatest {
		return "", api.ErrBound
	}
	return word(n), nil
}

func binary(n int) string { return strconv.FormatInt(int64(n), 2) }

func gamma(n int) string {
	digits := binary(n)
	return strings.Repeat("0", len(digits)-1) + digits
}

func delta(n int) string {
	digits := binary(n)
	return gamma(len(digits)) + digits[1:]
}

func omega(n int) string {
	word := "0"
	for n > 1 {
		digits := binary(n)
		word = digits + word
		n = len(digits) - 1
	}
	return word
}
