package sample

import (
	"slices"

	"demon/api"
)

const (
	mostSteps = 6     // of tapes that are counted
	mostTapes = 20000 // that are counted
)

// span of states: those that the least and the greatest one have come to. As rules are rising, all others have come to one between, so these two tell whether all have come to one.
type span struct{ low, high int }

func allStates(r Rules) span { return span{0, len(r[0]) - 1} }

func (s span) by(rule []int) span { return span{rule[s.low], rule[s.high]} }

func (s span) isOne() bool { return s.low == s.high }

// Past: by the last steps, all from one state.
func Past(r Rules, tape []int) (state, used int, ok bool, err error) {
	if err := tapeError(r, tape); err != nil {
		return 0, 0, false, err
	}
	for steps := 1; steps <= len(tape); steps *= 2 {
		if s := afterLast(r, tape[:steps]); s.isOne() {
			return s.low, steps, true, nil
		}
	}
	return 0, 0, false, nil
}

func tapeError(r Rules, tape []int) error {
	if err := Valid(r); err != nil {
		return err
	}
	if len(tape) > api.MaxText {
		return api.ErrBound
	}
	for at, rule := range tape {
		if rule < 0 || rule >= len(r) {
			return &api.Fault{At: at, Err: api.ErrShape}
		}
	}
	return nil
}

// afterLast steps, from all states. The tape has its last step first.
func afterLast(r Rules, tape []int) span {
	now := allStates(r)
	for _, rule := range slices.Backward(tape) {
		now = now.by(r[rule])
	}
	return now
}

// Ends of all tapes. They are gone through from their first step on: as all of them are, it is the same as from the last one.
func Ends(r Rules, steps int) ([]int, int, error) {
	if err := Valid(r); err != nil {
		return nil, 0, err
	}
	if steps < 0 || steps > mostSteps || countTapes(r, steps) > mostTapes {
		return nil, 0, api.ErrBound
	}
	ends, open := make([]int, len(r[0])), 0
	var from func(now span, left int)
	from = func(now span, left int) {
		if left > 0 {
			for _, rule := range r {
				from(now.by(rule), left-1)
			}
			return
		}
		if now.isOne() {
			ends[now.low]++
		} else {
			open++
		}
	}
	from(allStates(r), steps)
	return ends, open, nil
}

func countTapes(r Rules, steps int) int {
	out := 1
	for range steps {
		out *= len(r)
	}
	return out
}
