package logs

import (
	"math/rand"
	"strconv"
	"strings"
	"testing"

	"demon/api"
)

// P15

func TestText(t *testing.T) {
	for _, c := range []struct {
		a    api.Log
		want string
	}{
		{log(1), "0"},
		{log(2, 5, 3), "3/2 log 5"},
		{log(1, 5, 2), "2 log 5"},
		{log(1, 5, 1), "log 5"},
		{log(1, 5, -1), "-log 5"},
		{log(1, 5, -2), "-2 log 5"},
		{log(2, 5, -3), "-3/2 log 5"},
		{log(2, 5, 1), "1/2 log 5"},
		{log(1, 2, 2, 3, 1, 5, -1), "2 log 2 + log 3 - log 5"},
		{log(6, 2, 3, 3, -4, 5, 6, 7, -12, 11, 1), "1/2 log 2 - 2/3 log 3 + log 5 - 2 log 7 + 1/6 log 11"},
		{log(6, 2, -6, 3, 1), "-log 2 + 1/6 log 3"},
		{log(1, 2, api.MaxCoef), "1099511627776 log 2"},
		{log(1, 2, -api.MaxCoef), "-1099511627776 log 2"},
		{log(api.MaxDen, 999983, -1), "-1/1000000 log 999983"},
		{log(999983, 2, api.MaxCoef, 3, 999983), "1099511627776/999983 log 2 + log 3"},
	} {
		if s, err := Text(c.a); s != c.want || err != nil {
			t.Errorf("%v: %q, %v", c, s, err)
		}
		if a, err := Read(c.want); !same(a, c.a) || err != nil {
			t.Errorf("%q: %v, %v", c.want, a, err)
		}
	}
	for _, a := range []api.Log{{}, log(2), log(2, 2, 2), log(1, 4, 1), log(1, 2, 0)} {
		if s, err := Text(a); s != "" || err != api.ErrShape {
			t.Errorf("%v: %q, %v", a, s, err)
		}
	}
}

func TestReadRefuses(t *testing.T) {
	for _, s := range []string{
		"", " ", "-", "+", "00", "-0", "+0", "0 ", " 0", "0.", "1", "2", "1/2", "0/1",
		"log", "log ", "-log", "log  2", "log\t2", "Log 2", "log2", "log -2", "log +2", "log 2.", "log 0x2", "log 1_1", "log 02", "log \u0662",
		"log 0", "log 1", "log 4", "log 1000000", "log 1000003", "log 18446744073709551618", "log 99999999999999999999999",
		" log 2", "log 2 ", "+log 2", "--log 2", "- log 2", "-  log 2", "+ log 2", "log 2\n",
		"1 log 2", "-1 log 2 ", "-1 log 2", "1/1 log 2", "2/1 log 2", "2/2 log 2", "2/4 log 2", "0 log 2", "0/2 log 2", "1/0 log 2",
		"02 log 2", "1/02 log 2", "01/2 log 2", "+2 log 2", "1/-2 log 2", "-1/-2 log 2", "1/+2 log 2", "/2 log 2", "1/ log 2", "1/2/3 log 2", "1 /2 log 2", "1/ 2 log 2",
		"2  log 2", "2log 2", "2 2 log 2", "2 log log 2", "log log 2", "log 2 log 3", "log 2 3",
		"log 3 + log 2", "log 2 + log 2", "log 2 - log 2", "log 2 + 0", "0 + log 2", "log 2 + -log 3", "log 2 - -log 3", "log 2 + +log 3", "log 2 + -2 log 3",
		"log 2 +log 3", "log 2+ log 3", "log 2+log 3", "log 2  + log 3", "log 2 +  log 3", "log 2 +", "log 2 + ", "log 2 -", "log 2 - ", "log 2 * log 3", "log 2 +- log 3",
		"1/1000001 log 2", "1/999983 log 2 + 1/2 log 3", "1/1000 log 2 + 1/999 log 3 + 1/997 log 5",
		"1099511627777 log 2", "-1099511627777 log 2", "1099511627776 log 2 + 1/2 log 3", "9223372036854775807 log 2", "9223372036854775808 log 2", "18446744073709551617 log 2", "1/18446744073709551617 log 2",
		"\x00", "log \xff", "log 2\x00", "\u2212log 2",
	} {
		if a, err := Read(s); err != api.ErrText || !same(a, api.Log{}) {
			t.Errorf("%q: %v, %v", s, a, err)
		}
	}
}

// longText is one of just so many bytes.
func longText(t *testing.T, size int) string {
	var out strings.Builder
	out.WriteString("2 log 2")
	for _, p := range primesUpTo(10000)[1:] {
		term := " + log " + strconv.Itoa(p)
		if left := size - out.Len() - len(term); left <= 14 {
			return out.String() + " + 1" + strings.Repeat("0", left-2) + term[2:]
		}
		out.WriteString(term)
	}
	t.Fatal(size)
	return ""
}

func TestReadAtTheBound(t *testing.T) {
	for _, size := range []int{api.MaxText - 1, api.MaxText, api.MaxText + 1, api.MaxText + 2} {
		s := longText(t, size)
		if len(s) != size {
			t.Fatal(size, len(s))
		}
		a, err := Read(s)
		if size > api.MaxText {
			if err != api.ErrBound || !same(a, api.Log{}) {
				t.Error(size, a, err)
			}
			continue
		}
		again, bad := Text(a)
		if err != nil || bad != nil || again != s {
			t.Error(size, err, bad)
		}
	}
	for _, s := range []string{strings.Repeat(" ", api.MaxText), strings.Repeat("9", api.MaxText), strings.Repeat("-", api.MaxText)} {
		if _, err := Read(s); err != api.ErrText {
			t.Error(err)
		}
		if _, err := Read(s + "x"); err != api.ErrBound {
			t.Error(err)
		}
	}
}

func TestReadIsTheOneOfWhichItIsTheText(t *testing.T) {
	r := rand.New(rand.NewSource(31))
	primes := primesUpTo(100)
	const signs = "0123456789/+- logx"
	for i := range 1500 {
		a := someLog(r, primes, 5, []int{3, 50, api.MaxCoef}[i%3], []int{1, 12, 720, api.MaxDen}[i%4])
		s, err := Text(a)
		if err != nil {
			t.Fatal(a, err)
		}
		if back, err := Read(s); err != nil || !same(a, back) {
			t.Error(a, s, back, err)
		}
		for range 5 {
			at := r.Intn(len(s))
			changed := s[:at] + signs[r.Intn(len(signs)):][:1] + s[at+r.Intn(2):]
			b, err := Read(changed)
			if err == api.ErrText && same(b, api.Log{}) {
				continue
			}
			if told, bad := Text(b); err != nil || bad != nil || told != changed {
				t.Errorf("%q: %v, %v", changed, b, err)
			}
		}
	}
}
