package machine

import "slices"

// part of a program: its word, and what it makes of what was written.
type part struct {
	word string
	do   func(s string) string
}

func parts() []part {
	return []part{
		{"00", func(s string) string { return s + "0" }},
		{"01", func(s string) string { return s + "1" }},
		{"100", func(s string) string { return s + s }},
		{"101", turned},
		{"110", swapped},
		{"111", shortened},
	}
}

func turned(s string) string {
	b := []byte(s)
	slices.Reverse(b)
	return string(b)
}

func swapped(s string) string {
	b := []byte(s)
	for i := range b {
		b[i] = '0' + '1' - b[i]
	}
	return string(b)
}

func shortened(s string) string {
	if s == "" {
		return ""
	}
	return s[:len(s)-1]
}
