package order

// P154

import (
	"math"
	"math/big"
	"math/rand"
	"slices"
	"testing"

	"demon/api"
	"demon/dist"
	"demon/logs"
)

// rising tells whether the entropy of p is at most that of q: by exact signs where they are told, else by floats.
func rising(t *testing.T, p, q []int) bool {
	t.Helper()
	a, errA := dist.Entropy(p)
	b, errB := dist.Entropy(q)
	if errA != nil || errB != nil {
		return about(p) <= about(q)+1e-9
	}
	minus, err := logs.Scale(a, api.Frac{Num: -1, Den: 1})
	if err != nil {
		t.Fatal(p, q, err)
	}
	if d, err := logs.Add(b, minus); err == nil {
		if sign, err := logs.Sign(d); err == nil {
			return sign >= 0
		}
	}
	return about(p) <= about(q)+1e-9
}

// about is the entropy of weights, nearly.
func about(w []int) float64 {
	out, all := 0.0, float64(sumOf(w))
	for _, x := range w {
		if x > 0 {
			out += float64(x) / all * math.Log2(all/float64(x))
		}
	}
	return out
}

// unit is a table that changes nothing.
func unit(n int) [][]*big.Rat {
	out := make([][]*big.Rat, n)
	for i := range out {
		for k := range n {
			x := 0
			if i == k {
				x = 1
			}
			out[i] = append(out[i], rat(x, 1))
		}
	}
	return out
}

// mixRows by a move: each of the two keeps as much as stays with it, and gets from the other one what goes over.
func mixRows(m [][]*big.Rat, p []int, move Move) {
	if move.Size == 0 {
		return
	}
	goes := rat(move.Size, p[move.From]-p[move.To])
	stays := new(big.Rat).Sub(rat(1, 1), goes)
	for k := range m {
		from, to := m[move.From][k], m[move.To][k]
		sum := func(a, b *big.Rat) *big.Rat {
			x, y := new(big.Rat).Mul(a, stays), new(big.Rat).Mul(b, goes)
			return x.Add(x, y)
		}
		m[move.From][k], m[move.To][k] = sum(from, to), sum(to, from)
	}
}

// tableOf p and q, as Moves show it: a table of whole numbers, and their sum; false: numbers are too great for one.
func tableOf(t *testing.T, p, q []int) ([][]int, int, bool) {
	t.Helper()
	m, now := unit(len(p)), slices.Clone(p)
	for _, move := range checkMoves(t, p, q) {
		mixRows(m, now, move)
		now[move.From] -= move.Size
		now[move.To] += move.Size
	}
	// Rows are put where q has their numbers.
	rows := make([][]*big.Rat, len(p))
	for i, n := range q {
		k := slices.Index(now, n)
		rows[i], now[k] = m[k], -1
	}
	den := big.NewInt(1)
	for _, x := range slices.Concat(rows...) {
		common := new(big.Int).GCD(nil, nil, den, x.Denom())
		den.Mul(den, new(big.Int).Div(x.Denom(), common))
	}
	if den.Cmp(big.NewInt(api.MaxWeight)) > 0 {
		return nil, 0, false
	}
	out := make([][]int, len(p))
	for i, row := range rows {
		for _, x := range row {
			out[i] = append(out[i], int(new(big.Rat).Mul(x, new(big.Rat).SetInt(den)).Num().Int64()))
		}
	}
	return out, int(den.Int64()), true
}

func timesAll(l []int, by int) []int {
	out := slices.Clone(l)
	for i := range out {
		out[i] *= by
	}
	return out
}

// checkMade: what majorizes has a table that makes the other one of it; it tells whether it was made.
func checkMade(t *testing.T, p, q []int) bool {
	t.Helper()
	m, sum, ok := tableOf(t, p, q)
	if !ok {
		return false
	}
	got, err := Spread(m, p)
	if !isTable(m) || sumOf(m[0]) != sum || !slices.Equal(got, timesAll(q, sum)) || err != nil {
		t.Fatal(p, q, m, sum, got, err)
	}
	checkBirkhoff(t, m)
	return true
}

// If p majorizes q, there is a table: of all small lists, and of drawn ones.
func TestTablesOfMoves(t *testing.T) {
	for length, most := range map[int]int{1: 4, 2: 7, 3: 4, 4: 2} {
		rows := allRows(length, most)
		for _, p := range rows {
			for _, q := range rows {
				if sumOf(p) == sumOf(q) && wantAbove(p, q) && !checkMade(t, p, q) {
					t.Error(p, q)
				}
			}
		}
	}
	r := rand.New(rand.NewSource(154))
	made := 0
	for range 3000 {
		p := someRow(r, 1+r.Intn(8), 1+r.Intn(60))
		if checkMade(t, p, nearer(r, p)) {
			made++
		}
	}
	if made < 1500 {
		t.Error(made)
	}
}

// checkSpreads: if there is a table, w majorizes what comes of it; and the entropy does not fall.
func checkSpreads(t *testing.T, m [][]int, w []int) {
	t.Helper()
	got, err := Spread(m, w)
	if err != nil {
		t.Fatal(m, w, err)
	}
	sum := sumOf(m[0])
	if all := timesAll(w, sum); slices.Max(all) <= api.MaxWeight {
		if above, err := Above(all, got); !above || err != nil {
			t.Error(m, w, got, above, err)
		}
	}
	if sum > 0 && sumOf(w) > 0 && !rising(t, w, got) {
		t.Error(m, w, got)
	}
	// If the numbers can be over the sum, w majorizes these too.
	if sum > 0 && !slices.ContainsFunc(got, func(n int) bool { return n%sum != 0 }) {
		for i := range got {
			got[i] /= sum
		}
		if above, err := Above(w, got); !above || err != nil {
			t.Error(m, w, got, above, err)
		}
	}
}

func TestSpreadsAreBelow(t *testing.T) {
	for n, most := range map[int]int{1: 4, 2: 5, 3: 3} {
		for sum := range most + 1 {
			eachTable(n, sum, func(m [][]int) {
				eachRow(n, 3, func(w []int) { checkSpreads(t, m, w) })
			})
		}
	}
	r := rand.New(rand.NewSource(1541))
	for range 3000 {
		n := 1 + r.Intn(8)
		m := someTable(r, n, 1+r.Intn(6), 1+r.Intn(6))
		checkSpreads(t, m, someRow(r, n, []int{1, 5, 100, 4096}[r.Intn(4)]))
	}
}

func TestSchur(t *testing.T) {
	for length, most := range map[int]int{2: 9, 3: 4, 4: 2} {
		rows := allRows(length, most)
		for _, p := range rows {
			for _, q := range rows {
				if above, err := Above(p, q); err == nil && above && sumOf(p) > 0 && !rising(t, p, q) {
					t.Error(p, q)
				}
			}
		}
	}
	r := rand.New(rand.NewSource(1542))
	seen := 0
	for range 5000 {
		p := someRow(r, 1+r.Intn(16), []int{1, 4, 30, 256, 4096}[r.Intn(5)])
		q := another(r, p)
		above, err := Above(p, q)
		if err != nil {
			t.Fatal(p, q, err)
		}
		if above && sumOf(p) > 0 {
			seen++
			if !rising(t, p, q) {
				t.Error(p, q)
			}
		}
	}
	if seen < 2000 {
		t.Error(seen)
	}
}

// checkBirkhoff: the parts are permutations, as often as one time at least, and together they are the table.
func checkBirkhoff(t *testing.T, m [][]int) {
	t.Helper()
	parts, often, err := Parts(m)
	if err != nil || len(parts) != len(often) || len(parts) > (len(m)-1)*(len(m)-1)+1 {
		t.Fatal(m, parts, often, err)
	}
	left := copied(m)
	for i, part := range parts {
		if often[i] < 1 || len(part) != len(m) {
			t.Fatal(m, parts, often)
		}
		var seen [mostRows]bool
		for row, column := range part {
			if seen[column] {
				t.Fatal(m, parts, often)
			}
			seen[column] = true
			left[row][column] -= often[i]
		}
	}
	for _, row := range left {
		if slices.Min(row) != 0 || slices.Max(row) != 0 {
			t.Fatal(m, parts, often, left)
		}
	}
}

func TestBirkhoff(t *testing.T) {
	r := rand.New(rand.NewSource(1543))
	for range 3000 {
		parts := 1 + r.Intn(60)
		checkBirkhoff(t, someTable(r, 1+r.Intn(8), parts, []int{1, 3, 4096 / parts}[r.Intn(3)]))
	}
}

// mixture of points by weights: the place and the energy, if the place is whole.
func mixture(l []Point, w []int) (place int, energy *big.Rat, ok bool) {
	x, y := 0, 0
	for i, p := range l {
		x += w[i] * p.X
		y += w[i] * p.Y
	}
	if x%sumOf(w) != 0 {
		return 0, nil, false
	}
	return x / sumOf(w), rat(y, sumOf(w)), true
}

// No mixture, of however many points, lies below Mix; and that of the two points that are told lies at it.
func TestGibbs(t *testing.T) {
	r := rand.New(rand.NewSource(1544))
	seen := 0
	for k := range 20000 {
		far := []int{2, 5, 60, 1000000}[k%4]
		l := somePoints(r, 1+r.Intn(12), far, far)
		w := someRow(r, len(l), 1+r.Intn(4))
		w[r.Intn(len(w))]++
		x, energy, ok := mixture(l, w)
		if !ok {
			continue
		}
		seen++
		f, a, b, err := Mix(l, x)
		if err != nil || energy.Cmp(rat(f.Num, f.Den)) < 0 || !told(f, energyOf(l[a], l[b], x)) {
			t.Error(l, w, x, energy, f, a, b, err)
		}
	}
	if seen < 4000 {
		t.Error(seen)
	}
}
