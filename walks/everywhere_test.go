package walks

// P1 to P4, as far as they speak of package walks.

import (
	"reflect"
	"slices"
	"sync"
	"testing"

	"demon/api"
)

func wildNets() []Net {
	out := slices.Concat(rightNets(), nobodysChains())
	for _, x := range wrongNets() {
		out = append(out, x.g)
	}
	for _, a := range wildNumbers() {
		out = append(out, Net{N: a}, Net{a, many(20, Wire{0, 1, 1})}, Net{a, many(21, Wire{0, 1, 1})}, Net{2, many(20, Wire{0, 1, a})})
		for _, b := range wildNumbers() {
			out = append(out, Net{a, []Wire{{0, 1, b}}}, net(3, 0, 1, 1, a, b, 1), net(3, 0, 1, 1, 1, a, b), net(3, a, a, b, 1, 2, 1))
		}
	}
	return out
}

// known: an error that the chapter names for the call, bare.
func known(err error, names ...error) bool { return slices.Contains(names, err) }

// P1 and P3: every call ends without a panic; with an error there is nothing else, and Valid's come first.
func TestWild(t *testing.T) {
	for _, g := range wildNets() {
		bad := Valid(g)
		if !known(bad, nil, api.ErrBound, api.ErrShape, api.ErrNone) || bad != wantValid(g) {
			t.Error(g, bad)
		}
		check := func(name string, nothing bool, err error, names ...error) {
			t.Helper()
			if bad != nil && err != bad || bad == nil && !known(err, names...) || nothing != (err != nil) {
				t.Error(name, g, nothing, err, bad)
			}
		}
		c, err := Chain(g)
		check("Chain", len(c) == 0, err, nil, api.ErrNone, api.ErrBound)
		n, err := Trees(g)
		check("Trees", n == 0, err, nil, api.ErrBound)
		for _, a := range wildNumbers() {
			for _, b := range wildNumbers() {
				if bad != nil && a != 0 && b != 1 {
					continue
				}
				l, err := Voltages(g, a, b)
				check("Voltages", len(l) == 0, err, nil, api.ErrShape, api.ErrBound)
				f, err := Resistance(g, a, b)
				check("Resistance", f == api.Frac{}, err, nil, api.ErrShape, api.ErrBound)
				f, err = Commute(g, a, b)
				check("Commute", f == api.Frac{}, err, nil, api.ErrShape, api.ErrBound)
				s, err := Short(g, a, b)
				check("Short", sameNet(s, Net{}), err, nil, api.ErrShape)
			}
		}
	}
}

// answers of all calls of the package.
func answers(g Net, a, b int) []any {
	out := []any{Valid(g)}
	put := func(x any, err error) { out = append(out, x, err) }
	l, err := Voltages(g, a, b)
	put(l, err)
	f, err := Resistance(g, a, b)
	put(f, err)
	c, err := Chain(g)
	put(c, err)
	n, err := Trees(g)
	put(n, err)
	s, err := Short(g, a, b)
	put(s, err)
	f, err = Commute(g, a, b)
	put(f, err)
	return out
}

func some() Net { return net(4, 0, 1, 1, 2, 0, 2, 1, 2, 5, 3, 1, 2, 2, 3, 1) }

func wantAnswers() []any {
	return []any{nil, fracs(1, 1, 6, 13, 7, 13, 0, 1), nil, frac(13, 19), nil, [][]int{{0, 1, 2, 0}, {1, 0, 5, 2}, {2, 5, 0, 1}, {0, 2, 1, 0}}, nil, 57, nil, net(3, 0, 1, 1, 2, 0, 2, 1, 2, 5, 0, 1, 2, 2, 0, 1), nil, frac(286, 19), nil}
}

// P2: the same answers, however many ask at once, and again and again.
func TestSideBySide(t *testing.T) {
	g := some()
	var all sync.WaitGroup
	for range 16 {
		all.Go(func() {
			for range 100 {
				if got := answers(g, 0, 3); !reflect.DeepEqual(got, wantAnswers()) {
					t.Error(got)
					return
				}
			}
		})
	}
	all.Wait()
}

// P3 and P4: what lies behind a list's length is left alone, what is handed over is only read.
func TestOnlyRead(t *testing.T) {
	memory := append(some().Wires, Wire{0, 0, -1}, Wire{9, 9, 9})
	kept := slices.Clone(memory)
	if got := answers(Net{4, memory[:5]}, 0, 3); !reflect.DeepEqual(got, wantAnswers()) {
		t.Error(got)
	}
	if !slices.Equal(memory, kept) {
		t.Error(memory)
	}
	for _, g := range slices.Concat(rightNets(), someNets(4, 2)) {
		kept := slices.Clone(g.Wires)
		eachPair(g.N, func(a, b int) { answers(g, a, b) })
		if !slices.Equal(g.Wires, kept) {
			t.Error(g, kept)
		}
	}
}

// spoil all that is seen of a list's memory.
func spoil[T any](l []T) {
	var zero T
	l = l[:cap(l)]
	for i := range l {
		l[i] = zero
	}
}

// P4: what is answered is new memory, no two lists of it share any, and nothing is kept.
func TestNewMemory(t *testing.T) {
	g := some()
	for range 3 {
		l, _ := Voltages(g, 0, 3)
		c, _ := Chain(g)
		s, _ := Short(g, 0, 3)
		last, _ := Short(net(3, 0, 1, 1, 1, 2, 2), 0, 2)
		spoil(c[0])
		if !slices.Equal(c[1], []int{1, 0, 5, 2}) || !slices.Equal(c[3], []int{0, 2, 1, 0}) {
			t.Error(c)
		}
		spoil(l)
		spoil(c)
		spoil(s.Wires)
		spoil(last.Wires)
		if got := answers(g, 0, 3); !sameNet(g, some()) || !reflect.DeepEqual(got, wantAnswers()) {
			t.Error(g, got)
		}
	}
	// Also where no wire changes its ends.
	for _, g := range rightNets() {
		if g.N < 2 {
			continue
		}
		kept := slices.Clone(g.Wires)
		s, _ := Short(g, g.N-2, g.N-1)
		spoil(s.Wires)
		if !slices.Equal(g.Wires, kept) {
			t.Error(g, kept)
		}
	}
	// What was handed over may be changed between two calls.
	first := answers(g, 0, 3)
	g.Wires[0].C = 3
	if got := answers(g, 0, 3); !reflect.DeepEqual(first, wantAnswers()) || reflect.DeepEqual(got, first) {
		t.Error(first, got)
	}
}
