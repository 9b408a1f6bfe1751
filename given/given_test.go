// Package given holds no program: its tests see to what was given, and to the language's rules.
package given

import (
	"crypto/sha256"
	"encoding/hex"
	"errors"
	"os"
	"testing"

	"demon/api"
	"demon/arith"
	"demon/bayes"
	"demon/chain"
	"demon/channel"
	"demon/dist"
	"demon/heat"
	"demon/ising"
	"demon/lempel"
	"demon/logs"
	"demon/machine"
	"demon/order"
	"demon/plain"
	"demon/prefix"
	"demon/renyi"
	"demon/sample"
	"demon/secret"
	"demon/types"
	"demon/walks"
	"demon/zero"
)

// P5

func TestNumbers(t *testing.T) {
	for _, c := range []struct {
		name      string
		got, want int
	}{
		{"MaxNumber", api.MaxNumber, 1000000},
		{"MaxDen", api.MaxDen, 1000000},
		{"MaxCoef", api.MaxCoef, 1099511627776},
		{"MaxPower", api.MaxPower, 40000},
		{"MaxTold", api.MaxTold, 4611686018427387904},
		{"MaxPart", api.MaxPart, 1073741824},
		{"MaxSize", api.MaxSize, 16},
		{"MaxWeight", api.MaxWeight, 4096},
		{"MaxStates", api.MaxStates, 8},
		{"MaxSteps", api.MaxSteps, 200},
		{"MaxWord", api.MaxWord, 64},
		{"MaxLetters", api.MaxLetters, 200},
		{"MaxText", api.MaxText, 4000},
		{"MaxBits", api.MaxBits, 24},
		{"MaxDepth", api.MaxDepth, 4},
		{"MaxTypes", api.MaxTypes, 20},
		{"MaxVertex", api.MaxVertex, 16},
		{"MaxSpins", api.MaxSpins, 14},
		{"MaxEdges", api.MaxEdges, 30},
		{"MaxModulus", api.MaxModulus, 997},
		{"MaxProgram", api.MaxProgram, 40},
		{"MaxOutput", api.MaxOutput, 24},
		{"MaxLines", api.MaxLines, 400},
		{"MaxName", api.MaxName, 12},
		{"Workers", api.Workers, 16},
	} {
		if c.got != c.want {
			t.Error(c)
		}
	}
}

func TestErrors(t *testing.T) {
	for i, c := range []struct {
		err  error
		want string
	}{
		{api.ErrText, "demon: text"},
		{api.ErrBound, "demon: bound"},
		{api.ErrShape, "demon: shape"},
		{api.ErrZero, "demon: zero"},
		{api.ErrName, "demon: name"},
		{api.ErrNone, "demon: none"},
		{api.ErrOrder, "demon: order"},
		{api.ErrKind, "demon: kind"},
	} {
		if c.err.Error() != c.want {
			t.Error(c)
		}
		if code, at := plain.Code(c.err); code != i+1 || at != -1 {
			t.Error(c, code, at)
		}
		fault := &api.Fault{At: 7, Err: c.err}
		if code, at := plain.Code(fault); code != i+1 || at != 7 || !errors.Is(fault, c.err) || fault.Error() != c.want {
			t.Error(c, code, at)
		}
	}
	if code, at := plain.Code(nil); code != 0 || at != -1 {
		t.Error(code, at)
	}
	if code, at := plain.Code(errors.New("another one")); code != -1 || at != -1 {
		t.Error(code, at)
	}
}

// Packages api and plain stay to the byte.
func TestToTheByte(t *testing.T) {
	for file, want := range map[string]string{
		"../api/api.go":     "04efe679b11e39dad91a36a61c32749c25fd09e5afb3b5a536daa789372fbdea",
		"../plain/plain.go": "c72a16bb90b3cb97180e1356614179c2305e521a00bed19f04b8023196c6fb15",
	} {
		text, err := os.ReadFile(file)
		if err != nil {
			t.Fatal(err)
		}
		sum := sha256.Sum256(text)
		if got := hex.EncodeToString(sum[:]); got != want {
			t.Error(file, got)
		}
	}
}

// What package logs exports stays as it was given.
var (
	_ func(api.Log) error                      = logs.Valid
	_ func(api.Frac) (api.Log, error)          = logs.Of
	_ func(a, b api.Log) (api.Log, error)      = logs.Add
	_ func(api.Log, api.Frac) (api.Log, error) = logs.Scale
	_ func(api.Log) (int, error)               = logs.Sign
	_ func(api.Log) (int, error)               = logs.Grains
	_ func(api.Log) (string, error)            = logs.Text
	_ func(string) (api.Log, error)            = logs.Read
)

// What package dist exports stays as it was given.
var (
	_ func([]int) error                      = dist.Valid
	_ func([][]int) error                    = dist.Table
	_ func([]int) (api.Log, error)           = dist.Entropy
	_ func(p, q []int) (api.Log, error)      = dist.Divergence
	_ func([][]int) ([]int, error)           = dist.Rows
	_ func([][]int) ([]int, error)           = dist.Columns
	_ func([][]int) (api.Log, error)         = dist.Joint
	_ func([][]int) (api.Log, error)         = dist.Given
	_ func([][]int) (api.Log, error)         = dist.Mutual
	_ func(p, q []int) (api.Frac, error)     = dist.Variation
	_ func(w []int, to []int) ([]int, error) = dist.Merge
)

// What package chain exports stays as it was given.
var (
	_ func([][]int) error                                     = chain.Valid
	_ func([][]int) ([]int, error)                            = chain.Classes
	_ func([][]int) ([]int, error)                            = chain.Closed
	_ func(c [][]int, i int) (int, error)                     = chain.Period
	_ func([][]int) ([]api.Frac, error)                       = chain.Stationary
	_ func([][]int) (bool, error)                             = chain.Reversible
	_ func(c [][]int, to int) ([]api.Frac, error)             = chain.Hitting
	_ func(c [][]int, to int) (api.Frac, error)               = chain.Return
	_ func(c [][]int, w []int, steps int) ([]api.Frac, error) = chain.After
	_ func([][]int) (api.Log, error)                          = chain.Rate
)

// What package prefix exports stays as it was given.
var (
	_ func([]string) error                                   = prefix.Valid
	_ func([]int) (api.Frac, error)                          = prefix.Kraft
	_ func([]int) ([]string, error)                          = prefix.Canon
	_ func([]string) (bool, error)                           = prefix.Prefix
	_ func([]string) (bool, error)                           = prefix.Unique
	_ func(words []string, text string) ([]int, error)       = prefix.Decode
	_ func([]int) ([]int, error)                             = prefix.Huffman
	_ func([]int) ([]int, error)                             = prefix.Alphabetic
	_ func(keys, gaps []int) (cost int, root int, err error) = prefix.Search
)

// What package arith exports stays as it was given.
var (
	_ func(w []int, l []int) (low, width api.Frac, err error) = arith.Interval
	_ func(w []int, l []int) (string, error)                  = arith.Encode
	_ func(w []int, text string, n int) ([]int, error)        = arith.Decode
	_ func(int) (string, error)                               = arith.Gamma
	_ func(int) (string, error)                               = arith.Delta
	_ func(int) (string, error)                               = arith.Omega
	_ func(string) (n, rest int, err error)                   = arith.ReadGamma
	_ func(string) (n, rest int, err error)                   = arith.ReadDelta
	_ func(string) (n, rest int, err error)                   = arith.ReadOmega
)

// What package lempel exports stays as it was given.
var (
	_ = lempel.Phrase(struct {
		Of   int
		Next byte
		Last bool
	}{})
	_ = lempel.Copy(struct {
		Back, Length int
		Next         byte
		Last         bool
	}{})
	_ func(string) ([]lempel.Phrase, error)             = lempel.Parse
	_ func([]lempel.Phrase) (string, error)             = lempel.Text
	_ func(s string, window int) ([]lempel.Copy, error) = lempel.Slide
	_ func([]lempel.Copy) (string, error)               = lempel.Unslide
	_ func(string) (api.Frac, error)                    = lempel.Chance
	_ func(s string, d int) (api.Frac, error)           = lempel.Weighted
)

// What package types exports stays as it was given.
var (
	_ func(n, k int) (int, error)                    = types.Count
	_ func(n, k int) ([][]int, error)                = types.All
	_ func([]int) (int, error)                       = types.Size
	_ func(t []int, q []int) (api.Frac, error)       = types.Chance
	_ func(n int, q []int, set [][]int) (int, error) = types.Nearest
)

// What package channel exports stays as it was given.
var (
	_ func([][]int) error                               = channel.Valid
	_ func(p []int, c [][]int) ([][]int, error)         = channel.Table
	_ func(p []int, c [][]int) (api.Log, error)         = channel.Through
	_ func(c [][]int, q []int) (api.Log, int, error)    = channel.Above
	_ func([][]int) (bool, error)                       = channel.Even
	_ func([][]int) (api.Log, error)                    = channel.Capacity
	_ func(a, b [][]int) ([][]int, error)               = channel.Behind
	_ func(p []int, c [][]int) ([]int, api.Frac, error) = channel.Guess
)

// What package zero exports stays as it was given.
var (
	_ = zero.Graph(struct {
		N     int
		Edges [][2]int
	}{})
	_ func(zero.Graph) error                                                 = zero.Valid
	_ func([][]int) (zero.Graph, error)                                      = zero.Of
	_ func(zero.Graph) ([]int, error)                                        = zero.Alone
	_ func(a, b zero.Graph) (zero.Graph, error)                              = zero.Strong
	_ func(g zero.Graph, w []api.Frac) (api.Frac, bool, error)               = zero.Packs
	_ func(g zero.Graph, sets [][]int, w []api.Frac) (api.Frac, bool, error) = zero.Covers
)

// What package secret exports stays as it was given.
var (
	_ = secret.Cipher(struct {
		Keys []int
		L    [][]int
	}{})
	_ func(secret.Cipher) error                        = secret.Valid
	_ func(secret.Cipher) (bool, error)                = secret.Perfect
	_ func(c secret.Cipher, w []int) ([][]int, error)  = secret.Table
	_ func(p int, coefs []int, n int) ([]int, error)   = secret.Share
	_ func(p int, at []int, values []int) (int, error) = secret.Join
)

// What package machine exports stays as it was given.
var (
	_ func(p string) (string, error) = machine.Run
	_ func(x string) (string, error) = machine.Least
	_ func(n int) (int, error)       = machine.Many
)

// What package ising exports stays as it was given.
var (
	_ = ising.System(struct {
		N     int
		Bonds [][2]int
	}{})
	_ func(ising.System) error                         = ising.Valid
	_ func(ising.System) ([]int, error)                = ising.States
	_ func(ising.System) ([]int, error)                = ising.Even
	_ func(high, long int, ring bool) ([]int, error)   = ising.Strip
	_ func(high, long int) (ising.System, error)       = ising.Grid
	_ func(high, long int) (ising.System, error)       = ising.Faces
	_ func(counts []int, x api.Frac) (api.Frac, error) = ising.Mean
)

// What package heat exports stays as it was given.
var (
	_ = heat.Process(struct {
		Weights [][]int
		Steps   [][][]int
	}{})
	_                                                                     = heat.Leg(struct{ Heat, At api.Frac }{})
	_ func(heat.Process) error                                            = heat.Valid
	_ func(p heat.Process, path []int) (chance, gain api.Frac, err error) = heat.Chance
	_ func(p heat.Process, path []int) (api.Frac, error)                  = heat.Reverse
	_ func(heat.Process) (api.Frac, error)                                = heat.Mean
	_ func([]heat.Leg) (work, entropy api.Frac, err error)                = heat.Round
	_ func([]int) (api.Log, error)                                        = heat.Erase
)

// What package sample exports stays as it was given.
var (
	_                                                                        = sample.Rules([][]int{})
	_ func(w []int, s string) (which, used int, err error)                   = sample.Draw
	_ func([]int) (api.Frac, error)                                          = sample.Flips
	_ func(sample.Rules) error                                               = sample.Valid
	_ func(r sample.Rules, tape []int) (state, used int, ok bool, err error) = sample.Past
	_ func(r sample.Rules, steps int) ([]int, int, error)                    = sample.Ends
)

// What package order exports stays as it was given.
var (
	_                                                                     = order.Move(struct{ From, To, Size int }{})
	_                                                                     = order.Point(struct{ X, Y int }{})
	_ func(p, q []int) (bool, error)                                      = order.Above
	_ func(p, q []int) ([]order.Move, error)                              = order.Moves
	_ func(p []int, l []order.Move) ([]int, error)                        = order.Apply
	_ func([][]int) ([][]int, []int, error)                               = order.Parts
	_ func(m [][]int, w []int) ([]int, error)                             = order.Spread
	_ func([]order.Point) ([]int, error)                                  = order.Hull
	_ func(l []order.Point, x int) (energy api.Frac, a, b int, err error) = order.Mix
)

// What package walks exports stays as it was given.
var (
	_ = walks.Wire(struct{ A, B, C int }{})
	_ = walks.Net(struct {
		N     int
		Wires []walks.Wire
	}{})
	_ func(walks.Net) error                               = walks.Valid
	_ func(g walks.Net, from, to int) ([]api.Frac, error) = walks.Voltages
	_ func(g walks.Net, from, to int) (api.Frac, error)   = walks.Resistance
	_ func(walks.Net) ([][]int, error)                    = walks.Chain
	_ func(walks.Net) (int, error)                        = walks.Trees
	_ func(g walks.Net, a, b int) (walks.Net, error)      = walks.Short
	_ func(g walks.Net, a, b int) (api.Frac, error)       = walks.Commute
)

// What package renyi exports stays as it was given.
var (
	_ = renyi.Family(struct {
		M int
		L [][]int
	}{})
	_ func([]int) (api.Log, error)                    = renyi.Collision
	_ func([]int) (api.Log, error)                    = renyi.Least
	_ func([]int) (api.Log, error)                    = renyi.Support
	_ func([]int) (api.Frac, error)                   = renyi.Guesses
	_ func(renyi.Family) error                        = renyi.Valid
	_ func(renyi.Family) (bool, error)                = renyi.Universal
	_ func(p, most int) (renyi.Family, error)         = renyi.Linear
	_ func(f renyi.Family, w []int) (api.Frac, error) = renyi.Far
)

// What package bayes exports stays as it was given.
var (
	_ func(w []int, c [][]int, data []int) (api.Frac, error)   = bayes.Chance
	_ func(w []int, c [][]int, data []int) ([]api.Frac, error) = bayes.Posterior
	_ func(w []int, c [][]int, data []int) (int, error)        = bayes.Choice
	_ func(p, q []int, n int) (api.Frac, error)                = bayes.Errors
)
