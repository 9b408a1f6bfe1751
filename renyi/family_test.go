package renyi

import (
	"math"
	"math/rand"
	"slices"
	"testing"

	"demon/api"
	"demon/dist"
)

// family of rows.
func family(m int, rows ...[]int) Family { return Family{M: m, L: rows} }

func sameFamily(f, g Family) bool { return f.M == g.M && slices.EqualFunc(f.L, g.L, slices.Equal) }

type familyCase struct {
	f   Family
	err error
}

func wrongFamilies() []familyCase {
	most, least := math.MaxInt, math.MinInt
	return []familyCase{
		{Family{}, api.ErrBound},
		{family(-1, []int{0}), api.ErrBound},
		{family(17, []int{0}), api.ErrBound},
		{family(most, []int{0}), api.ErrBound},
		{family(least, []int{0}), api.ErrBound},
		{family(2, many(65, []int{0})...), api.ErrBound},
		{family(2, many(100000, []int{0})...), api.ErrBound},
		{family(2, many(17, 0)), api.ErrBound},
		{family(2, []int{0}, many(17, 0)), api.ErrBound},
		{family(2, many(100000, 0)), api.ErrBound},
		// Bounds come ahead of shapes.
		{family(0, []int{0}), api.ErrBound},
		{family(0, []int{1}, nil), api.ErrBound},
		{family(2, make([][]int, 65)...), api.ErrBound},
		{family(2, append(many(64, []int{9}), []int{0})...), api.ErrBound},
		{family(2, many(17, 2)), api.ErrBound},
		{family(2, []int{-1}, nil, many(17, 0)), api.ErrBound},
		{family(17), api.ErrBound},
		{family(1), api.ErrShape},
		{Family{M: 16, L: [][]int{}}, api.ErrShape},
		{family(2, nil), api.ErrShape},
		{family(2, []int{}), api.ErrShape},
		{family(2, make([][]int, 64)...), api.ErrShape},
		{family(2, []int{0}, nil), api.ErrShape},
		{family(2, nil, []int{0}), api.ErrShape},
		{family(2, []int{0}, []int{0, 1}), api.ErrShape},
		{family(2, []int{0, 1}, []int{0}), api.ErrShape},
		{family(2, []int{0, 1}, []int{1, 1}, []int{1}), api.ErrShape},
		{family(2, []int{2}), api.ErrShape},
		{family(2, []int{-1}), api.ErrShape},
		{family(1, []int{1}), api.ErrShape},
		{family(16, []int{16}), api.ErrShape},
		{family(3, []int{0, most}), api.ErrShape},
		{family(3, []int{least, 0}), api.ErrShape},
		{family(3, []int{0, 1, 2}, []int{0, 1, 3}), api.ErrShape},
		{family(3, []int{0, 3, 2}, []int{0, 1, 1}), api.ErrShape},
		{family(2, append(many(63, []int{0}), []int{2})...), api.ErrShape},
	}
}

func rightFamilies() []Family {
	return []Family{
		family(1, []int{0}),
		family(16, []int{15}),
		family(16, []int{0}),
		family(2, []int{0, 1}),
		family(1, many(16, 0)),
		family(16, []int{0, 1, 2, 3, 4, 5, 6, 7, 8, 9, 10, 11, 12, 13, 14, 15}),
		family(2, many(64, []int{1})...),
		family(16, many(64, many(16, 15))...),
		family(2, []int{0, 0, 0}, []int{0, 1, 0}, []int{0, 0, 1}, []int{0, 1, 1}),
	}
}

// P172

func TestValid(t *testing.T) {
	for _, c := range wrongFamilies() {
		if err := Valid(c.f); err != c.err || err != wantValid(c.f) {
			t.Error(c.f.M, len(c.f.L), err, "want", c.err)
		}
		if is, err := Universal(c.f); is || err != c.err {
			t.Error(c.f.M, len(c.f.L), is, err)
		}
		for _, w := range [][]int{{1}, {1, 1}, nil, {-1}, many(17, 1)} {
			if x, err := Far(c.f, w); x != (api.Frac{}) || err != c.err {
				t.Error(c.f.M, len(c.f.L), w, x, err)
			}
		}
	}
	for _, f := range rightFamilies() {
		if err := Valid(f); err != nil || wantValid(f) != nil {
			t.Error(f, err)
		}
	}
}

// All families of up to two rows of up to two numbers, right and wrong ones.
func TestValidByWords(t *testing.T) {
	rows := [][]int{nil}
	for n := 1; n <= 2; n++ {
		eachRow(n, 4, func(row []int) {
			for i := range row {
				row[i]--
			}
			rows = append(rows, row)
		})
	}
	for m := range 5 {
		for _, a := range rows {
			for _, f := range []Family{family(m), family(m, a)} {
				if err := Valid(f); err != wantValid(f) {
					t.Error(f, err)
				}
			}
			for _, b := range rows {
				f := family(m, a, b)
				if err := Valid(f); err != wantValid(f) {
					t.Error(f, err)
				}
			}
		}
	}
}

func TestUniversal(t *testing.T) {
	for _, c := range []struct {
		f    Family
		want bool
	}{
		{family(2, []int{0, 0, 0}, []int{0, 1, 0}, []int{0, 0, 1}, []int{0, 1, 1}), true},
		{family(2, []int{0, 0}), false},
		{family(2, []int{0, 1}), true},
		{family(2, []int{1, 0}), true},
		{family(2, []int{1}), true},
		{family(2, []int{1}, []int{1}), true},
		{family(1, many(16, 0)), true},
		{family(2, []int{0, 0}, []int{0, 1}), true},
		{family(2, []int{0, 0}, []int{1, 1}), false},
		{family(2, []int{0, 0}, []int{0, 1}, []int{1, 1}), false},
		{family(2, []int{0, 0}, []int{0, 1}, []int{1, 0}), true},
		{family(3, []int{0, 0}, []int{0, 1}), false},
		{family(3, []int{0, 0}, []int{0, 1}, []int{2, 1}), true},
		{family(3, []int{2, 2}, []int{0, 1}, []int{1, 1}), false},
		// Only the last two things, or the first and the last one, meet too often.
		{family(3, []int{0, 1, 2, 2}), false},
		{family(4, []int{0, 1, 2, 0}), false},
		{family(4, []int{0, 1, 2, 3}), true},
		{family(4, []int{1, 1, 2, 3}), false},
		{family(16, []int{0, 1, 2, 3, 4, 5, 6, 7, 8, 9, 10, 11, 12, 13, 14, 15}), true},
		{family(16, []int{0, 1, 2, 3, 4, 5, 6, 7, 8, 9, 10, 11, 12, 13, 15, 15}), false},
		{family(16, append(many(60, []int{0, 1}), many(4, []int{5, 5})...)...), true},
		{family(16, append(many(59, []int{0, 1}), many(5, []int{5, 5})...)...), false},
	} {
		if is, err := Universal(c.f); is != c.want || err != nil {
			t.Error(c.f, is, err)
		}
	}
}

func TestUniversalByWords(t *testing.T) {
	seen := map[bool]int{}
	check := func(f Family) {
		is, err := Universal(f)
		if is != wantUniversal(f) || err != nil {
			t.Error(f, is, err)
		}
		seen[is]++
	}
	for m := 1; m <= 3; m++ {
		for rows := 1; rows <= 3; rows++ {
			for things := 1; things <= 3 && rows*things <= 6; things++ {
				eachFamily(rows, things, m, check)
			}
		}
	}
	r := rand.New(rand.NewSource(172))
	for range 2000 {
		check(someFamily(r, 64, []int{2, 4, 16}[r.Intn(3)]))
	}
	if seen[true] < 500 || seen[false] < 500 {
		t.Error(seen)
	}
}

func TestLinear(t *testing.T) {
	for _, c := range []struct {
		p, most int
		want    Family
	}{
		{2, 1, family(2, []int{0}, []int{0}, []int{0}, []int{0})},
		{2, 3, family(2, []int{0, 0, 0}, []int{0, 1, 0}, []int{0, 0, 1}, []int{0, 1, 1})},
		{2, 4, family(2, []int{0, 0, 0, 0}, []int{0, 1, 0, 1}, []int{0, 0, 1, 1}, []int{0, 1, 1, 0})},
		{3, 2, family(3, []int{0, 0}, []int{0, 1}, []int{0, 2}, []int{0, 0}, []int{0, 1}, []int{0, 2}, []int{0, 0}, []int{0, 1}, []int{0, 2})},
		{3, 9, family(3,
			[]int{0, 0, 0, 0, 0, 0, 0, 0, 0}, []int{0, 1, 2, 0, 1, 2, 0, 1, 2}, []int{0, 2, 1, 0, 2, 1, 0, 2, 1},
			[]int{0, 0, 0, 1, 1, 1, 2, 2, 2}, []int{0, 1, 2, 1, 2, 0, 2, 0, 1}, []int{0, 2, 1, 1, 0, 2, 2, 1, 0},
			[]int{0, 0, 0, 2, 2, 2, 1, 1, 1}, []int{0, 1, 2, 2, 0, 1, 1, 2, 0}, []int{0, 2, 1, 2, 1, 0, 1, 0, 2})},
	} {
		if f, err := Linear(c.p, c.most); !sameFamily(f, c.want) || err != nil {
			t.Error(c.p, c.most, f, err)
		}
	}
	f, err := Linear(7, 16)
	if err != nil || len(f.L) != 49 || !slices.Equal(f.L[3*7+5], []int{0, 5, 3, 1, 6, 4, 2, 3, 1, 6, 4, 2, 0, 5, 6, 4}) {
		t.Error(f, err)
	}
}

// All that there are, row by row, by the two digits of a thing.
func TestLinearByWords(t *testing.T) {
	for p, greatest := range map[int]int{2: 4, 3: 9, 5: 16, 7: 16} {
		for most := 1; most <= greatest; most++ {
			f, err := Linear(p, most)
			if err != nil || f.M != p || len(f.L) != p*p || Valid(f) != nil {
				t.Fatal(p, most, f, err)
			}
			for i, row := range f.L {
				if len(row) != most {
					t.Fatal(p, most, f)
				}
				for x, value := range row {
					a, b := i/p, i%p
					if want := (a*(x/p) + b*(x%p)) % p; value != want {
						t.Error(p, most, a, b, x, value, want)
					}
				}
			}
		}
	}
}

func TestWrongLinear(t *testing.T) {
	most, least := math.MaxInt, math.MinInt
	// The kind comes ahead of the bound.
	for _, p := range []int{least, -7, -2, -1, 0, 1, 4, 6, 8, 9, 11, 13, 25, most} {
		for _, n := range []int{least, -1, 0, 1, 4, 16, 17, most} {
			if f, err := Linear(p, n); err != api.ErrKind || !sameFamily(f, Family{}) {
				t.Error(p, n, f, err)
			}
		}
	}
	for p, greatest := range map[int]int{2: 4, 3: 9, 5: 16, 7: 16} {
		for _, n := range []int{least, -1, 0, greatest + 1, 17, 25, 49, most} {
			if f, err := Linear(p, n); err != api.ErrBound || !sameFamily(f, Family{}) {
				t.Error(p, n, f, err)
			}
		}
	}
}

// P173

func TestFar(t *testing.T) {
	two := family(2, []int{0, 0, 0}, []int{0, 1, 0}, []int{0, 0, 1}, []int{0, 1, 1})
	for _, c := range []struct {
		f    Family
		w    []int
		want api.Frac
	}{
		{two, []int{1, 1, 2}, frac(1, 4)},
		{two, []int{1, 1, 1}, frac(1, 4)},
		{two, []int{0, 4096, 0}, frac(1, 2)},
		{two, []int{1, 0, 1}, frac(1, 4)},
		{family(2, []int{0, 1}), []int{1, 1}, frac(0, 1)},
		{family(2, []int{0, 1}), []int{7, 7}, frac(0, 1)},
		{family(2, []int{0, 1}), []int{3, 1}, frac(1, 4)},
		{family(2, []int{1, 0}), []int{3, 1}, frac(1, 4)},
		{family(2, []int{0, 0}), []int{3, 1}, frac(1, 2)},
		{family(2, []int{0, 0}, []int{1, 1}), []int{3, 1}, frac(1, 2)},
		{family(2, []int{0, 1}, []int{1, 0}), []int{3, 1}, frac(1, 4)},
		// Values that nothing goes to count too.
		{family(3, []int{0, 1}), []int{1, 1}, frac(1, 3)},
		{family(16, []int{0}), []int{1}, frac(15, 16)},
		{family(1, []int{0}), []int{1}, frac(0, 1)},
		{family(1, many(16, 0), many(16, 0)), many(16, 256), frac(0, 1)},
		{family(4, []int{0, 1, 2, 3}), []int{1, 2, 3, 4}, frac(1, 5)},
		{family(4, []int{0, 1, 2, 3}), []int{1, 0, 0, 4095}, frac(3071, 4096)},
		{family(16, many(64, many(16, 15))...), many(16, 256), frac(15, 16)},
	} {
		if f, err := Far(c.f, c.w); f != c.want || err != nil {
			t.Error(c.f, c.w, f, err)
		}
	}
}

func TestFarByWords(t *testing.T) {
	check := func(f Family, w []int) {
		if got, err := Far(f, w); err != nil || !isFrac(got, wantFar(f, w)) {
			t.Error(f, w, got, err)
		}
	}
	for m := 1; m <= 3; m++ {
		eachFamily(1, 3, m, func(f Family) {
			eachWeights(3, 2, func(w []int) { check(f, w) })
		})
		eachFamily(2, 2, m, func(f Family) {
			eachWeights(2, 3, func(w []int) { check(f, w) })
		})
	}
	r := rand.New(rand.NewSource(173))
	for range 1000 {
		f := someFamily(r, []int{1, 4, 64}[r.Intn(3)], 16)
		check(f, someWeights(r, len(f.L[0]), 1+r.Intn(4096)))
	}
}

// First what is wrong with the family, then what is with the weights, then whether there are as many.
func TestWrongFar(t *testing.T) {
	right, wrong := family(2, []int{0, 1}), family(2, []int{0, 2})
	for _, c := range wrongWeights() {
		if f, err := Far(right, c.w); err != c.err || f != (api.Frac{}) {
			t.Error(len(c.w), f, err)
		}
		if f, err := Far(wrong, c.w); err != api.ErrShape || f != (api.Frac{}) {
			t.Error(len(c.w), f, err)
		}
		if f, err := Far(Family{}, c.w); err != api.ErrBound || f != (api.Frac{}) {
			t.Error(len(c.w), f, err)
		}
	}
	for _, w := range [][]int{{1}, {1, 0, 0}, {0, 1, 1}, many(16, 1)} {
		if err := dist.Valid(w); err != nil {
			t.Fatal(w, err)
		}
		if f, err := Far(right, w); err != api.ErrShape || f != (api.Frac{}) {
			t.Error(w, f, err)
		}
	}
}
