package arith

import "demon/api"

// mostDigits of a number that has words.
const mostDigits = 30

// reader of a text, bit by bit from the left.
type reader struct {
	text string
	at   int
}

// ReadGamma reads a Gamma word.
func ReadGamma(s string) (n, rest int, err error) { return read(s, (*reader).gamma) }

// ReadDelta reads a Delta word.
func ReadDelta(s string) (n, rest int, err error) { return read(s, (*reader).delta) }

// ReadOmega reads an Omega word.
func ReadOmega(s string) (n, rest int, err error) { return read(s, (*reader).omega) }

// read a word by a method of a reader, which need not look whether the number is too great: only a word's end tells that.
func read(s string, word func(*reader) (int, error)) (n, rest int, err error) {
	if len(s) > api.MaxText {
		return 0, 0, api.ErrBound
	}
	r := reader{text: s}
	if n, err = word(&r); err != nil {
		return 0, 0, err
	}
	if n > greatest {
		return 0, 0, api.ErrBound
	}
	return n, r.at, nil
}

func (r *reader) gamma() (int, error) {
	for zeros := 0; ; zeros++ {
		bit, err := r.bit()
		if err != nil {
			return 0, err
		}
		if bit == 1 {
			return r.digits(zeros)
		}
		if zeros == mostDigits {
			return 0, api.ErrBound
		}
	}
}

func (r *reader) delta() (int, error) {
	count, err := r.gamma()
	if err != nil {
		return 0, err
	}
	if count > mostDigits {
		return 0, api.ErrBound
	}
	return r.digits(count - 1)
}

func (r *reader) omega() (int, error) {
	n := 1
	for {
		bit, err := r.bit()
		if err != nil {
			return 0, err
		}
		if bit == 0 {
			return n, nil
		}
		if n >= mostDigits {
			return 0, api.ErrBound
		}
		if n, err = r.digits(n); err != nil {
			return 0, err
		}
	}
}

// digits is the number that has a 1 ahead and so many digits of the text behind it.
func (r *reader) digits(count int) (int, error) {
	n := 1
	for range count {
		bit, err := r.bit()
		if err != nil {
			return 0, err
		}
		n = 2*n + bit
	}
	return n, nil
}

func (r *reader) bit() (int, error) {
	if r.at == len(r.text) || r.text[r.at] != '0' && r.text[r.at] != '1' {
		return 0, api.ErrText
	}
	r.at++
	return int(r.text[r.at-1] - '0'), nil
}
