package logs

import (
	"strconv"
	"strings"

	"demon/api"
	"demon/whole"
)

// Text of a logarithm.
func Text(a api.Log) (string, error) {
	if err := Valid(a); err != nil {
		return "", err
	}
	if len(a.L) == 0 {
		return "0", nil
	}
	var out strings.Builder
	for i, t := range a.L {
		out.WriteString(signText(i == 0, t.Coef < 0))
		out.WriteString(factorText(whole.Lowest(whole.Size(t.Coef), a.Den)))
		out.WriteString("log ")
		out.WriteString(strconv.Itoa(t.Prime))
	}
	return out.String(), nil
}

// signText is what stands ahead of a term.
func signText(first, below bool) string {
	switch {
	case first && below:
		return "-"
	case first:
		return ""
	case below:
		return " - "
	}
	return " + "
}

// factorText is how a factor above 0 is told, with the blank behind it.
func factorText(f api.Frac) string {
	switch {
	case f.Den != 1:
		return strconv.Itoa(f.Num) + "/" + strconv.Itoa(f.Den) + " "
	case f.Num != 1:
		return strconv.Itoa(f.Num) + " "
	}
	return ""
}

// Read a logarithm. What is read is told again, and must be the same text: so the reader itself need not know every rule of form.
func Read(s string) (api.Log, error) {
	if len(s) > api.MaxText {
		return api.Log{}, api.ErrBound
	}
	a, ok := readSum(s)
	if !ok {
		return api.Log{}, api.ErrText
	}
	again, err := Text(a)
	if err != nil || again != s {
		return api.Log{}, api.ErrText
	}
	return a, nil
}

// part of a text: a term with its own factor.
type part struct {
	prime  int
	factor api.Frac
}

func readSum(s string) (api.Log, bool) {
	if s == "0" {
		return api.Log{Den: 1}, true
	}
	parts, ok := readParts(s)
	if !ok {
		return api.Log{}, false
	}
	den := 1
	for _, p := range parts {
		den = den / whole.GCD(den, p.factor.Den) * p.factor.Den
		if den > api.MaxDen {
			return api.Log{}, false
		}
	}
	a := api.Log{Den: den}
	for _, p := range parts {
		a.L = append(a.L, api.Term{Prime: p.prime, Coef: p.factor.Num * (den / p.factor.Den)})
	}
	return a, true
}

func readParts(s string) ([]part, bool) {
	s, below := strings.CutPrefix(s, "-")
	words := strings.Split(s, " ")
	var out []part
	for {
		p, rest, ok := readPart(words)
		if !ok {
			return nil, false
		}
		if below {
			p.factor.Num = -p.factor.Num
		}
		out = append(out, p)
		if len(rest) == 0 {
			return out, true
		}
		if rest[0] != "+" && rest[0] != "-" {
			return nil, false
		}
		below, words = rest[0] == "-", rest[1:]
	}
}

// readPart reads one term from the first words, and answers those behind it.
func readPart(words []string) (part, []string, bool) {
	p := part{factor: api.Frac{Num: 1, Den: 1}}
	ok := true
	if len(words) > 0 && words[0] != "log" {
		p.factor, ok = readFactor(words[0])
		words = words[1:]
	}
	if !ok || len(words) < 2 || words[0] != "log" {
		return part{}, nil, false
	}
	p.prime, ok = readNumber(words[1], api.MaxNumber)
	return p, words[2:], ok
}

func readFactor(word string) (api.Frac, bool) {
	above, below, over := strings.Cut(word, "/")
	f := api.Frac{Den: 1}
	var ok bool
	if f.Num, ok = readNumber(above, api.MaxCoef); !ok {
		return api.Frac{}, false
	}
	if over {
		f.Den, ok = readNumber(below, api.MaxDen)
	}
	return f, ok
}

// readNumber reads one from 1 to most.
func readNumber(word string, most int) (int, bool) {
	n, err := strconv.Atoi(word)
	return n, err == nil && n >= 1 && n <= most
}
