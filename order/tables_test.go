package order

import (
	"math"
	"math/rand"
	"reflect"
	"slices"
	"testing"

	"demon/api"
)

// P152

func TestParts(t *testing.T) {
	for _, x := range []struct {
		m     [][]int
		parts [][]int
		often []int
	}{
		{[][]int{{0}}, nil, nil},
		{[][]int{{5}}, [][]int{{0}}, []int{5}},
		{[][]int{{4096}}, [][]int{{0}}, []int{4096}},
		{[][]int{{0, 0}, {0, 0}}, nil, nil},
		{many(8, many(8, 0)), nil, nil},
		{[][]int{{2, 1}, {1, 2}}, [][]int{{0, 1}, {1, 0}}, []int{2, 1}},
		{[][]int{{0, 3}, {3, 0}}, [][]int{{1, 0}}, []int{3}},
		{[][]int{{4096, 4096}, {4096, 4096}}, [][]int{{0, 1}, {1, 0}}, []int{4096, 4096}},
		// Of each row the column, not of each column the row.
		{[][]int{{0, 1, 0}, {0, 0, 1}, {1, 0, 0}}, [][]int{{1, 2, 0}}, []int{1}},
		// The first column that is above 0 does not always lead on.
		{[][]int{{1, 1, 0}, {1, 0, 1}, {0, 1, 1}}, [][]int{{0, 2, 1}, {1, 0, 2}}, []int{1, 1}},
		{[][]int{{1, 2, 0}, {2, 0, 1}, {0, 1, 2}}, [][]int{{0, 2, 1}, {1, 0, 2}}, []int{1, 2}},
		{[][]int{{1, 1, 1}, {1, 1, 1}, {1, 1, 1}}, [][]int{{0, 1, 2}, {1, 2, 0}, {2, 0, 1}}, []int{1, 1, 1}},
		{[][]int{{2, 1, 1}, {1, 2, 1}, {1, 1, 2}}, [][]int{{0, 1, 2}, {1, 2, 0}, {2, 0, 1}}, []int{2, 1, 1}},
		{[][]int{{3, 0, 1}, {1, 2, 1}, {0, 2, 2}}, [][]int{{0, 1, 2}, {0, 2, 1}, {2, 0, 1}}, []int{2, 1, 1}},
	} {
		parts, often, err := Parts(x.m)
		if !slices.EqualFunc(parts, x.parts, slices.Equal) || !slices.Equal(often, x.often) || err != nil {
			t.Error(x, parts, often, err)
		}
	}
}

// wrongTables are refused by all that take one.
func wrongTables() []struct {
	m   [][]int
	err error
} {
	type wrong = struct {
		m   [][]int
		err error
	}
	most, least := math.MaxInt, math.MinInt
	out := []wrong{
		{nil, api.ErrShape},
		{[][]int{}, api.ErrShape},
		{[][]int{nil}, api.ErrShape},
		{[][]int{{}}, api.ErrShape},
		{[][]int{{}, {}}, api.ErrShape},
		{[][]int{{1, 2}}, api.ErrShape},
		{[][]int{{1}, {1}}, api.ErrShape},
		{[][]int{{1, 1}, {1}}, api.ErrShape},
		{[][]int{{1}, {1, 1}}, api.ErrShape},
		{[][]int{{1, 1}, {1, 1, 0}}, api.ErrShape},
		{[][]int{{1, 1, 0}, {1, 1, 0}}, api.ErrShape},
		{[][]int{{1, 1}, nil}, api.ErrShape},
		{many(8, many(7, 0)), api.ErrShape},
		{many(8, many(9, 0)), api.ErrShape},
		{many(1, many(100000, 0)), api.ErrShape},
		{[][]int{{1, 1}, {1, 2}}, api.ErrShape},
		{[][]int{{1, 1}, {2, 0}}, api.ErrShape}, // rows are right, columns are not
		{[][]int{{1, 2}, {1, 0}}, api.ErrShape}, // columns are right, rows are not
		{[][]int{{1, 0, 0}, {0, 1, 0}, {1, 0, 0}}, api.ErrShape},
		{[][]int{{1, 0, 0}, {0, 1, 1}, {0, 0, 0}}, api.ErrShape},
		{[][]int{{0, 1}, {0, 0}}, api.ErrShape},
		{[][]int{{0, 0}, {0, 1}}, api.ErrShape},
		{[][]int{{2, -1}, {-1, 2}}, api.ErrShape},
		{[][]int{{-1, 1}, {1, -1}}, api.ErrShape},
		{[][]int{{4097, 0}, {0, 4097}}, api.ErrShape},
		{[][]int{{0, 4097}, {4097, 0}}, api.ErrShape},
		// Sums that would be right, if they had no more than 64 bits.
		{[][]int{{most, most, 2}, {most, 2, most}, {2, most, most}}, api.ErrShape},
		{[][]int{{least, least}, {least, least}}, api.ErrShape},
		{many(9, many(9, 0)), api.ErrBound},
		{many(9, many(9, 1)), api.ErrBound},
		{many(100000, []int{1}), api.ErrBound},
		// Too many come ahead of a wrong shape.
		{many(9, many(8, -1)), api.ErrBound},
		{make([][]int, 9), api.ErrBound},
		{make([][]int, 8), api.ErrShape},
	}
	for _, n := range noNumbers() {
		out = append(out, wrong{[][]int{{n}}, api.ErrShape}, wrong{many(8, many(8, n)), api.ErrShape})
		for _, at := range [][2]int{{0, 0}, {0, 7}, {3, 4}, {7, 0}, {7, 7}} {
			m := copied(many(8, many(8, 1)))
			m[at[0]][at[1]] = n
			out = append(out, wrong{m, api.ErrShape})
		}
	}
	return out
}

func TestPartsRefuses(t *testing.T) {
	for _, x := range wrongTables() {
		if parts, often, err := Parts(x.m); len(parts)+len(often) > 0 || err != x.err {
			t.Error(x.m, parts, often, err)
		}
	}
}

func checkParts(t *testing.T, m [][]int, all [][]int) int {
	t.Helper()
	wantParts, wantOften := wantParts(m, all)
	parts, often, err := Parts(m)
	if !slices.EqualFunc(parts, wantParts, slices.Equal) || !slices.Equal(often, wantOften) || err != nil {
		t.Fatal(m, parts, often, err, wantParts, wantOften)
	}
	return len(parts)
}

// All tables of some small sizes, also those that are none.
func TestAllParts(t *testing.T) {
	for n, most := range map[int]int{1: 6, 2: 4, 3: 2} {
		all := permutations(n)
		eachRow(n*n, most, func(cells []int) {
			m := slices.Collect(slices.Chunk(cells, n))
			if isTable(m) {
				checkParts(t, m, all)
			} else if parts, often, err := Parts(m); len(parts)+len(often) > 0 || err != api.ErrShape {
				t.Error(m, parts, often, err)
			}
		})
	}
	for n, most := range map[int]int{3: 7, 4: 3, 5: 1} {
		all := permutations(n)
		for sum := range most + 1 {
			eachTable(n, sum, func(m [][]int) { checkParts(t, m, all) })
		}
	}
}

func TestSomeParts(t *testing.T) {
	r := rand.New(rand.NewSource(152))
	for n := 1; n <= 7; n++ {
		all := permutations(n)
		for _, parts := range []int{1, 2, 3, 5, 12, 40} {
			for _, most := range []int{1, 3, 4096 / parts} {
				for range 200 / n / n {
					checkParts(t, someTable(r, n, parts, most), all)
				}
			}
		}
	}
	all, longest := permutations(8), 0
	for _, parts := range []int{1, 2, 4, 10, 40} {
		for range 4 {
			longest = max(longest, checkParts(t, someTable(r, 8, parts, 4096/parts), all))
		}
	}
	if longest < 30 || longest > 50 {
		t.Error(longest)
	}
}

func TestSpread(t *testing.T) {
	for _, x := range []struct {
		m    [][]int
		w    []int
		want []int
	}{
		{[][]int{{0}}, []int{7}, []int{0}},
		{[][]int{{3}}, []int{7}, []int{21}},
		{[][]int{{3}}, []int{0}, []int{0}},
		{[][]int{{4096}}, []int{4096}, []int{1 << 24}},
		{[][]int{{2, 1}, {1, 2}}, []int{3, 0}, []int{6, 3}},
		{[][]int{{2, 1}, {1, 2}}, []int{0, 3}, []int{3, 6}},
		// Each row by w, not each column.
		{[][]int{{0, 1, 0}, {0, 0, 1}, {1, 0, 0}}, []int{5, 6, 7}, []int{6, 7, 5}},
		{[][]int{{3, 0, 1}, {1, 2, 1}, {0, 2, 2}}, []int{1, 10, 100}, []int{103, 121, 220}},
		{many(8, many(8, 4096)), many(8, 4096), many(8, 1<<27)},
		{many(8, many(8, 0)), many(8, 4096), many(8, 0)},
	} {
		if got, err := Spread(x.m, x.w); !slices.Equal(got, x.want) || err != nil {
			t.Error(x, got, err)
		}
	}
}

func checkSpreadRefused(t *testing.T, m [][]int, w []int, want error) {
	t.Helper()
	if got, err := Spread(m, w); len(got) > 0 || err != want {
		t.Error(m, w, got, err)
	}
}

func TestSpreadRefuses(t *testing.T) {
	for _, x := range wrongTables() {
		for _, w := range [][]int{nil, many(min(9, len(x.m)), 1), {-1}, many(17, 0), many(8, 4097)} {
			checkSpreadRefused(t, x.m, w, x.err)
		}
	}
	for n := 1; n <= 8; n++ {
		m := many(n, many(n, 1))
		for length := range 20 {
			if length != n {
				checkSpreadRefused(t, m, many(length, 1), api.ErrShape)
			}
		}
		checkSpreadRefused(t, m, make([]int, 100000), api.ErrShape)
		for _, x := range noNumbers() {
			for at := range n {
				w := many(n, 1)
				w[at] = x
				checkSpreadRefused(t, m, w, api.ErrShape)
			}
		}
	}
}

func checkSpread(t *testing.T, m [][]int, w []int) {
	t.Helper()
	if got, err := Spread(m, w); !slices.Equal(got, wantSpread(m, w)) || err != nil {
		t.Error(m, w, got, err)
	}
}

func TestAllSpreads(t *testing.T) {
	for n, most := range map[int]int{1: 5, 2: 5, 3: 3} {
		for sum := range most + 1 {
			eachTable(n, sum, func(m [][]int) {
				eachRow(n, 3, func(w []int) { checkSpread(t, m, w) })
			})
		}
	}
}

func TestSomeSpreads(t *testing.T) {
	r := rand.New(rand.NewSource(1521))
	for range 5000 {
		n, parts := 1+r.Intn(8), 1+r.Intn(20)
		m := someTable(r, n, parts, []int{1, 3, 4096 / parts}[r.Intn(3)])
		if !isTable(m) {
			t.Fatal(m)
		}
		checkSpread(t, m, someRow(r, n, []int{1, 9, 4096}[r.Intn(3)]))
	}
}

// What is taken out of a table while it is gone through is not taken out of what was handed over.
func TestTablesStay(t *testing.T) {
	r := rand.New(rand.NewSource(1522))
	for range 500 {
		m := someTable(r, 1+r.Intn(8), 5, 9)
		kept := copied(m)
		Parts(m)
		Spread(m, m[0])
		if !reflect.DeepEqual(m, kept) {
			t.Fatal(m, kept)
		}
	}
}
