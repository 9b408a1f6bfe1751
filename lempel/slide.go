package lempel

import "demon/api"

// Copy of what stood ahead.
type Copy struct {
	Back, Length int
	Next         byte
	Last         bool
}

// Slide along a text.
func Slide(s string, window int) ([]Copy, error) {
	if len(s) > api.MaxText || window < 1 || window > api.MaxText {
		return nil, api.ErrBound
	}
	var out []Copy
	for at := 0; at < len(s); {
		c := longest(s, at, min(window, at))
		at += c.Length
		if at < len(s) {
			c.Next = s[at]
		} else {
			c.Last = true
		}
		at++
		out = append(out, c)
	}
	return out, nil
}

// longest copy of what stands from a place on that begins at most so many bytes ahead of it; of these the nearest.
func longest(s string, at, most int) Copy {
	var best Copy
	for back := 1; back <= most; back++ {
		if length := alike(s[at-back:], s[at:]); length > best.Length {
			best = Copy{Back: back, Length: length}
		}
	}
	return best
}

// alike is how many bytes both texts begin with; b is not longer than a.
func alike(a, b string) int {
	n := 0
	for n < len(b) && a[n] == b[n] {
		n++
	}
	return n
}

// Unslide copies.
func Unslide(l []Copy) (string, error) {
	length, err := checkCopies(l)
	if err != nil {
		return "", err
	}
	if length > api.MaxText {
		return "", api.ErrBound
	}
	out := make([]byte, 0, length)
	for _, c := range l {
		for range c.Length { // one by one, as a copy may go on into itself
			out = append(out, out[len(out)-c.Back])
		}
		if !c.Last {
			out = append(out, c.Next)
		}
	}
	return string(out), nil
}

// checkCopies answers how many bytes they make, without making them: a fault is told also where they are too many.
func checkCopies(l []Copy) (int, error) {
	if len(l) > api.MaxText {
		return 0, api.ErrBound
	}
	for _, c := range l {
		if c.Length > api.MaxText {
			return 0, api.ErrBound
		}
	}
	made := 0
	for i, c := range l {
		if c.Back < 0 || c.Back > made || c.Length < 0 || (c.Back == 0) != (c.Length == 0) {
			return 0, &api.Fault{At: i, Err: api.ErrShape}
		}
		if c.Last && (i < len(l)-1 || c.Length == 0 || c.Next != 0) {
			return 0, &api.Fault{At: i, Err: api.ErrShape}
		}
		made += c.Length
		if !c.Last {
			made++
		}
	}
	return made, nil
}
