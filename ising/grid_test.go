package ising

import (
	"math"
	"slices"
	"testing"

	"demon/api"
)

// P123

func TestGrid(t *testing.T) {
	for _, x := range []struct {
		high, long  int
		grid, faces System
	}{
		{2, 2, System{N: 4, Bonds: [][2]int{{0, 1}, {0, 2}, {1, 3}, {2, 3}}}, System{N: 2, Bonds: [][2]int{{1, 0}, {1, 0}, {0, 1}, {0, 1}}}},
		{2, 3, System{N: 6, Bonds: [][2]int{{0, 1}, {0, 2}, {1, 3}, {2, 3}, {2, 4}, {3, 5}, {4, 5}}}, System{N: 3, Bonds: [][2]int{{2, 0}, {2, 0}, {0, 2}, {0, 1}, {2, 1}, {1, 2}, {1, 2}}}},
		{3, 2, System{N: 6, Bonds: [][2]int{{0, 1}, {0, 3}, {1, 2}, {1, 4}, {2, 5}, {3, 4}, {4, 5}}}, System{N: 3, Bonds: [][2]int{{2, 0}, {2, 0}, {2, 1}, {0, 1}, {1, 2}, {0, 2}, {1, 2}}}},
		{3, 3, System{N: 9, Bonds: [][2]int{{0, 1}, {0, 3}, {1, 2}, {1, 4}, {2, 5}, {3, 4}, {3, 6}, {4, 5}, {4, 7}, {5, 8}, {6, 7}, {7, 8}}}, System{N: 5, Bonds: [][2]int{{4, 0}, {4, 0}, {4, 1}, {0, 1}, {1, 4}, {0, 2}, {4, 2}, {1, 3}, {2, 3}, {3, 4}, {2, 4}, {3, 4}}}},
	} {
		if s, err := Grid(x.high, x.long); !sameSystem(s, x.grid) || err != nil {
			t.Error(x, s, err)
		}
		if s, err := Faces(x.high, x.long); !sameSystem(s, x.faces) || err != nil {
			t.Error(x, s, err)
		}
	}
}

// longest that a grid, and its faces, may be, by how high they are.
func longest() (grid, faces [5]int) { return [5]int{0, 0, 7, 4, 3}, [5]int{0, 0, 10, 6, 4} }

func TestAllGrids(t *testing.T) {
	grids, faces := longest()
	for high := -2; high <= 16; high++ {
		for long := -2; long <= 16; long++ {
			var grid, sides System
			var noGrid, noSides error = api.ErrBound, api.ErrBound
			if high > 1 && high < 5 && long > 1 && long <= grids[high] {
				grid, noGrid = wantSystem(high, long, false), nil
			}
			if high > 1 && high < 5 && long > 1 && long <= faces[high] {
				sides, noSides = wantFaces(high, long), nil
			}
			if s, err := Grid(high, long); !sameSystem(s, grid) || err != noGrid || Valid(s) != nil {
				t.Error(high, long, s, err)
			}
			if s, err := Faces(high, long); !sameSystem(s, sides) || err != noSides || Valid(s) != nil {
				t.Error(high, long, s, err)
			}
		}
	}
}

func TestGridRefuses(t *testing.T) {
	most, least := math.MaxInt, math.MinInt
	for _, x := range [][2]int{{1, 1}, {1, 3}, {3, 1}, {4, 1}, {1, 12}, {0, 0}, {0, 2}, {2, 0}, {5, 2}, {2, 13}, {2, 11}, {2, 12}, {3, 7}, {4, 5}, {4, 12}, {-2, -2}, {most, 2}, {2, most}, {least, 2}, {2, least}, {most, most}, {1 << 32, 1 << 32}} {
		if s, err := Grid(x[0], x[1]); !sameSystem(s, System{}) || err != api.ErrBound {
			t.Error(x, s, err)
		}
		if s, err := Faces(x[0], x[1]); !sameSystem(s, System{}) || err != api.ErrBound {
			t.Error(x, s, err)
		}
	}
}

// Grid is the strip: its states are those of Strip.
func TestGridIsStrip(t *testing.T) {
	grids, _ := longest()
	for high := 2; high <= 4; high++ {
		for long := 2; long <= grids[high]; long++ {
			s, err := Grid(high, long)
			if err != nil {
				t.Fatal(high, long, err)
			}
			want, _ := Strip(high, long, false)
			if l, err := States(s); !slices.Equal(l, want) || err != nil {
				t.Error(high, long, l, want, err)
			}
		}
	}
}
