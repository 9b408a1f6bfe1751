package secret

// P104

import (
	"math/rand"
	"slices"
	"testing"

	"demon/dist"
	"demon/whole"
)

// tellsNothing: the Mutual of the table is 0: messages and signs say nothing of one another.
func tellsNothing(t *testing.T, c Cipher, w []int) bool {
	t.Helper()
	x, err := Table(c, w)
	if err != nil {
		t.Fatal(c, w, err)
	}
	m, err := dist.Mutual(x)
	if err != nil {
		t.Fatal(c, w, err)
	}
	return len(m.L) == 0
}

// checkShannon: a perfect cipher tells nothing, whatever the messages' weights, and has keys enough; one that is not perfect tells something, if all messages come.
func checkShannon(t *testing.T, c Cipher, w []int) bool {
	t.Helper()
	is, err := Perfect(c)
	if err != nil {
		t.Fatal(c, err)
	}
	if is && (!tellsNothing(t, c, w) || !slices.Contains(c.Keys, 0) && len(c.Keys) < len(c.L[0])) {
		t.Error(c, w)
	}
	if even := many(len(c.L[0]), 1); tellsNothing(t, c, even) != is {
		t.Error(c, is)
	}
	return is
}

func TestAllShannon(t *testing.T) {
	perfect := 0
	for _, x := range []struct{ keys, messages, signs, weights int }{
		{1, 1, 3, 3}, {1, 2, 3, 3}, {2, 1, 3, 3}, {2, 2, 4, 3}, {2, 3, 3, 3}, {3, 2, 3, 3}, {3, 3, 3, 3}, {4, 2, 3, 2}, {4, 3, 3, 2}, {4, 2, 2, 4}, {2, 3, 4, 2}, {3, 4, 4, 1},
	} {
		eachRows(x.keys, x.messages, x.signs, func(l [][]int) {
			eachList(x.keys, x.weights, func(keys []int) {
				if x.weights == 1 {
					keys = many(x.keys, 1)
				}
				if slices.Max(keys) == 0 {
					return
				}
				if checkShannon(t, Cipher{keys, l}, upTo(x.messages + 1)[1:]) && x.messages > 1 {
					perfect++
				}
			})
		})
	}
	if perfect < 500 {
		t.Error(perfect)
	}
}

// shuffled: the same cipher with other names of messages and signs, and its keys in another order; signs below most.
func shuffled(r *rand.Rand, c Cipher, most int) Cipher {
	out := Cipher{Keys: make([]int, len(c.Keys)), L: make([][]int, len(c.L))}
	signs, messages := r.Perm(most), r.Perm(len(c.L[0]))
	for key, to := range r.Perm(len(c.Keys)) {
		out.Keys[to] = c.Keys[key]
		for _, message := range messages {
			out.L[to] = append(out.L[to], signs[c.L[key][message]])
		}
	}
	return out
}

// Great ciphers that are perfect as they were made so: and no more, as soon as one key is dropped or heavier than it was.
func TestSomeShannon(t *testing.T) {
	r := rand.New(rand.NewSource(104))
	for range 3000 {
		n := 2 + r.Intn(15)
		c := turned(n, many(n, 1+r.Intn(3)))
		if n <= 8 && r.Intn(2) == 0 {
			more := turned(n, many(n, 1+r.Intn(3)))
			c.Keys, c.L = append(c.Keys, more.Keys...), append(c.L, more.L...)
		}
		c = shuffled(r, c, n+r.Intn(17-n))
		w := someWeights(r, n, 4)
		if all := whole.Total(w) * whole.Total(c.Keys); all > 4096 {
			t.Fatal(all)
		}
		if !checkShannon(t, c, w) {
			t.Error(c)
		}
		key := r.Intn(len(c.Keys))
		for _, weight := range []int{0, c.Keys[key] + 1} {
			if checkShannon(t, Cipher{with(c.Keys, key, weight), c.L}, w) {
				t.Error(c, key, weight)
			}
		}
	}
}

// As many shares as coefficients, or more, tell the secret: all polynomials of small fields, and all places in every order.
func TestAllTold(t *testing.T) {
	for _, p := range []int{2, 3, 5} {
		for length := 1; length < p; length++ {
			eachList(length, p, func(coefs []int) {
				shares, err := Share(p, coefs, p-1)
				if err != nil {
					t.Fatal(p, coefs, err)
				}
				for n := length; n < p; n++ {
					for _, at := range rowsOf(n, p) {
						if !slices.Contains(at, 0) {
							checkJoin(t, p, at, pick(shares, at), coefs)
						}
					}
				}
			})
		}
	}
}

func TestSomeTold(t *testing.T) {
	r := rand.New(rand.NewSource(1041))
	for _, p := range primes() {
		for range 20 {
			n := 1 + r.Intn(min(24, p-1))
			coefs := someElements(r, p, 1+r.Intn(min(12, n)))
			shares, err := Share(p, coefs, n)
			if err != nil {
				t.Fatal(p, coefs, n, err)
			}
			places := r.Perm(n)[:len(coefs)+r.Intn(min(12, n)-len(coefs)+1)]
			for i := range places {
				places[i]++
			}
			checkJoin(t, p, places, pick(shares, places), coefs)
		}
	}
}

// Of fewer shares each secret is as likely: whichever they are, each one comes of as many polynomials.
func TestAllHidden(t *testing.T) {
	for _, x := range []struct{ p, length int }{{2, 2}, {2, 3}, {3, 2}, {3, 3}, {5, 2}, {5, 3}, {5, 4}, {7, 3}, {13, 2}, {31, 2}} {
		for fewer := range min(x.length, x.p) {
			for _, at := range rowsOf(fewer, min(x.p, 5)) {
				if !slices.Contains(at, 0) && slices.IsSorted(at) {
					checkHidden(t, x.p, x.length, at)
				}
			}
		}
	}
}

func checkHidden(t *testing.T, p, length int, at []int) {
	t.Helper()
	secrets := map[[3]int][]int{}
	eachList(length, p, func(coefs []int) {
		shares, err := Share(p, coefs, min(p-1, 24))
		if err != nil {
			t.Fatal(p, coefs, err)
		}
		var seen [3]int
		copy(seen[:], pick(shares, at))
		if secrets[seen] == nil {
			secrets[seen] = make([]int, p)
		}
		secrets[seen][coefs[0]]++
	})
	want := power(p, length-1-len(at))
	for seen, counts := range secrets {
		if !slices.Equal(counts, many(p, want)) {
			t.Error(p, length, at, seen, counts)
		}
	}
	if len(secrets) != power(p, len(at)) {
		t.Error(p, length, at, len(secrets))
	}
}

func power(n, times int) int {
	out := 1
	for range times {
		out *= n
	}
	return out
}

// Of fewer shares, with any secret put to them at 0, there is a polynomial: of great fields, where not all can be gone through.
func TestSomeHidden(t *testing.T) {
	r := rand.New(rand.NewSource(1042))
	for range 300 {
		p := primes()[6+r.Intn(162)]
		coefs := someElements(r, p, 2+r.Intn(11))
		at := somePlaces(r, p, len(coefs)-1)
		values := []int{r.Intn(p)}
		for _, place := range at {
			values = append(values, wantValue(p, coefs, place))
		}
		other := solved(p, append([]int{0}, at...), values)
		shares, err := Share(p, other, min(p-1, 24))
		if err != nil || other[0] != values[0] || len(other) != len(coefs) {
			t.Error(p, coefs, other, err)
		}
		for i, place := range at {
			if place <= len(shares) && shares[place-1] != values[i+1] {
				t.Error(p, coefs, other, place, shares)
			}
		}
	}
}
