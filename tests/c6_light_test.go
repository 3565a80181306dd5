package tests

import (
	"math"
	"math/bits"
	"slices"
	"testing"

	"loop.example/piecesonboards/impl"
)

// quietTable has at row h-1 and column w-1 how many quiet sets a board of w columns and h rows has, -1 of one with too many lights.
var quietTable = [5][5]int{
	{1, 2, 1, 1, 2},
	{2, 1, 4, 1, 2},
	{1, 4, 1, 1, -1},
	{1, 1, 1, -1, -1},
	{2, 2, -1, -1, -1},
}

// eachLit calls f with the columns and the rows of each board of few enough lights.
func eachLit(f func(w, h int)) {
	eachBoard(func(w, h int) {
		if w*h <= 12 {
			f(w, h)
		}
	})
}

// pressedOn returns the lights behind presses, told light by light:
// each one is turned as often as there are presses of its cell and of those beside it.
func pressedOn(w, h, lights, set int) int {
	for cell := range w * h {
		times := 0
		for _, pressed := range cellsOf(set) {
			if pressed == cell || goes(w, "step", pressed, cell, nil) {
				times++
			}
		}
		lights ^= times % 2 << cell
	}
	return lights
}

// fromDark returns for each set of presses of a board what lights come from dark by it.
func fromDark(w, h int) []int {
	lights := make([]int, 1<<(w*h))
	for set := range lights {
		lights[set] = pressedOn(w, h, 0, set)
	}
	return lights
}

// fewestFromDark returns for each lights of a board the least number of presses by which they come from dark, -1 if there are none.
func fewestFromDark(w, h int) []int {
	fewest := slices.Repeat([]int{-1}, 1<<(w*h))
	for set, lights := range fromDark(w, h) {
		if size := bits.OnesCount(uint(set)); fewest[lights] < 0 || fewest[lights] > size {
			fewest[lights] = size
		}
	}
	return fewest
}

// turnedSet returns the set of the turned cells of a set.
func turnedSet(w, h, set int) int {
	other := 0
	for _, cell := range cellsOf(set) {
		other |= 1 << turned(w, h, cell)
	}
	return other
}

// isChased tests that ChaseDown presses a set and leaves lights.
func isChased(t *testing.T, w, h, lights, set, left int) {
	t.Helper()
	if a, b := impl.ChaseDown(w, h, lights); a != set || b != left {
		t.Errorf("ChaseDown(%d, %d, %d) = %d and %d, not %d and %d", w, h, lights, a, b, set, left)
	}
}

// isDarkBy tests that the fewest presses that turn lights off are so many, and that there are none if they are -1.
func isDarkBy(t *testing.T, w, h, lights, fewest int) {
	t.Helper()
	if got := impl.FewestPresses(w, h, lights); got != fewest {
		t.Errorf("FewestPresses(%d, %d, %d) = %d, not %d", w, h, lights, got, fewest)
	}
	if got := impl.CanDarken(w, h, lights); got != (fewest >= 0) {
		t.Errorf("CanDarken(%d, %d, %d) is %v, the fewest presses are %d", w, h, lights, got, fewest)
	}
}

func TestPressesOfSomeBoards(t *testing.T) {
	if impl.MaxLights != 12 {
		t.Errorf("MaxLights = %d", impl.MaxLights)
	}
	for _, c := range []struct{ w, h, lights, set, want int }{
		// No press leaves the lights as they are.
		{1, 1, 0, 0, 0}, {1, 1, 1, 0, 1}, {3, 3, 341, 0, 341}, {4, 3, 4095, 0, 4095},
		{1, 1, 0, 1, 1}, {1, 1, 1, 1, 0}, {2, 1, 0, 1, 3}, {2, 1, 0, 2, 3}, {2, 1, 0, 3, 0}, {2, 1, 1, 1, 2}, {2, 1, 1, 3, 1}, {1, 2, 2, 2, 1},
		// A row and a column, in the middle and at both ends.
		{5, 1, 0, 4, 14}, {5, 1, 0, 1, 3}, {5, 1, 0, 16, 24}, {5, 1, 31, 4, 17}, {1, 5, 0, 8, 28}, {1, 5, 0, 1, 3}, {5, 1, 0, 31, 14}, {3, 1, 0, 7, 2},
		// Corners, edges and the middle, with none beyond the edge of a row.
		{2, 2, 0, 1, 7}, {2, 2, 0, 8, 14}, {2, 2, 7, 1, 0}, {2, 2, 0, 15, 15}, {3, 3, 0, 1, 11}, {3, 3, 0, 4, 38}, {3, 3, 0, 8, 89}, {3, 3, 0, 32, 308}, {3, 3, 0, 256, 416},
		{3, 3, 0, 16, 186}, {3, 3, 511, 16, 325}, {3, 3, 0, 511, 341}, {4, 3, 0, 8, 140}, {4, 3, 0, 16, 305}, {3, 4, 0, 2048, 3328}, {5, 2, 0, 16, 536}, {5, 2, 0, 32, 97}, {2, 5, 0, 2, 11},
		// Sets that turn no light.
		{2, 1, 2, 3, 2}, {5, 1, 21, 27, 21}, {2, 3, 20, 51, 20}, {3, 2, 63, 58, 63}, {5, 2, 1000, 693, 1000},
	} {
		if got := impl.PressAll(c.w, c.h, c.lights, c.set); got != c.want {
			t.Errorf("PressAll(%d, %d, %d, %d) = %d, not %d", c.w, c.h, c.lights, c.set, got, c.want)
		}
	}
}

func TestFewestPressesOfSomeBoards(t *testing.T) {
	for _, c := range []struct{ w, h, lights, want int }{
		// Dark boards.
		{1, 1, 0, 0}, {2, 1, 0, 0}, {1, 5, 0, 0}, {2, 2, 0, 0}, {2, 3, 0, 0}, {3, 3, 0, 0}, {5, 2, 0, 0}, {3, 4, 0, 0},
		// One row and one column.
		{1, 1, 1, 1}, {2, 1, 3, 1}, {3, 1, 7, 1}, {3, 1, 5, 2}, {3, 1, 2, 3}, {3, 1, 1, 2}, {4, 1, 15, 2}, {5, 1, 31, 2}, {1, 5, 17, 3}, {1, 5, 5, -1}, {5, 1, 27, 2},
		// Lights that stay.
		{2, 1, 1, -1}, {2, 1, 2, -1}, {1, 2, 1, -1}, {5, 1, 1, -1}, {5, 1, 3, 1}, {5, 1, 5, -1}, {1, 5, 16, -1}, {2, 3, 1, -1}, {3, 2, 32, -1}, {5, 2, 1, -1}, {2, 5, 512, -1},
		{2, 2, 7, 1}, {2, 2, 15, 4}, {2, 2, 1, 3}, {2, 2, 3, 2}, {3, 3, 186, 1}, {3, 3, 511, 5}, {3, 3, 1, 5}, {3, 3, 341, 9}, {3, 2, 63, 2}, {4, 3, 4095, 10},
		// Of the sets that turn all off, the first one that is found need not be the least one.
		{5, 1, 27, 2}, {5, 2, 99, 5}, {5, 2, 33, 5}, {5, 2, 1023, 3}, {2, 5, 3, 5}, {2, 3, 29, 1}, {2, 3, 51, 2},
	} {
		isDarkBy(t, c.w, c.h, c.lights, c.want)
	}
}

func TestChasedLightsOfSomeBoards(t *testing.T) {
	for _, c := range []struct{ w, h, lights, set, left int }{
		// One row has none below it.
		{1, 1, 0, 0, 0}, {1, 1, 1, 0, 1}, {3, 1, 5, 0, 5}, {5, 1, 31, 0, 31}, {5, 1, 27, 0, 27},
		// A dark board, and one of which the last row alone is on.
		{2, 2, 0, 0, 0}, {4, 3, 0, 0, 0}, {2, 2, 12, 0, 12}, {3, 4, 3584, 0, 3584},
		{1, 2, 1, 2, 2}, {1, 2, 3, 2, 0}, {1, 3, 1, 6, 0}, {1, 3, 2, 4, 4}, {1, 3, 7, 2, 0}, {1, 5, 1, 22, 16}, {1, 5, 31, 18, 0},
		{2, 2, 1, 4, 12}, {2, 2, 2, 8, 12}, {2, 2, 3, 12, 0}, {2, 2, 15, 12, 12}, {2, 2, 7, 12, 4}, {3, 2, 2, 16, 56}, {3, 2, 7, 56, 16}, {5, 2, 1, 32, 96},
		{3, 3, 1, 200, 320}, {3, 3, 16, 128, 448}, {3, 3, 511, 376, 320}, {3, 3, 7, 184, 0},
	} {
		isChased(t, c.w, c.h, c.lights, c.set, c.left)
	}
}

// P26.
func TestTwicePressedIsNotPressed(t *testing.T) {
	eachLit(func(w, h int) {
		sets := someSets(w * h)
		for i, lights := range sets {
			for k, set := range sets {
				on := impl.PressAll(w, h, lights, set)
				if want := pressedOn(w, h, lights, set); on != want {
					t.Errorf("PressAll(%d, %d, %d, %d) = %d, not %d", w, h, lights, set, on, want)
				}
				if got := impl.PressAll(w, h, on, set); got != lights {
					t.Errorf("PressAll(%d, %d, %d, %d) twice = %d", w, h, lights, set, got)
				}
				other := sets[(3*i+5*k+1)%len(sets)]
				if a, b := impl.PressAll(w, h, on, other), impl.PressAll(w, h, lights, set^other); a != b {
					t.Errorf("PressAll(%d, %d, %d) by %d and %d = %d, by what is in one alone %d", w, h, lights, set, other, a, b)
				}
			}
		}
	})
}

// P27.
func TestWhatWasPressedCanBeDark(t *testing.T) {
	eachLit(func(w, h int) {
		for lights, fewest := range fewestFromDark(w, h) {
			if got := impl.CanDarken(w, h, lights); got != (fewest >= 0) {
				t.Errorf("CanDarken(%d, %d, %d) is %v", w, h, lights, got)
			}
			if got := impl.FewestPresses(w, h, lights); (got >= 0) != (fewest >= 0) {
				t.Errorf("FewestPresses(%d, %d, %d) = %d, not %d", w, h, lights, got, fewest)
			}
		}
		for _, set := range someSets(w * h) {
			if lights := impl.PressAll(w, h, 0, set); !impl.CanDarken(w, h, lights) || impl.FewestPresses(w, h, lights) < 0 {
				t.Errorf("lights %d of %d, %d come from dark by %d, but cannot be dark", lights, w, h, set)
			}
		}
	})
}

// P28.
func TestQuietSetsAreAPowerOfTwo(t *testing.T) {
	eachBoard(func(w, h int) {
		got := impl.QuietCount(w, h)
		if want := quietTable[h-1][w-1]; got != want {
			t.Errorf("QuietCount(%d, %d) = %d, not %d", w, h, got, want)
		}
		if other := impl.QuietCount(h, w); other != got {
			t.Errorf("QuietCount(%d, %d) = %d, turned %d", w, h, got, other)
		}
	})
	eachLit(func(w, h int) {
		quiet := 0
		for _, lights := range fromDark(w, h) {
			if lights == 0 {
				quiet++
			}
		}
		if got := impl.QuietCount(w, h); got != quiet || got < 1 || 1<<(w*h)%got != 0 {
			t.Errorf("QuietCount(%d, %d) = %d, there are %d quiet sets", w, h, got, quiet)
		}
	})
}

// P29.
func TestFewestPressesAreAtMostWhatWasPressed(t *testing.T) {
	eachLit(func(w, h int) {
		for lights, fewest := range fewestFromDark(w, h) {
			isDarkBy(t, w, h, lights, fewest)
			if got := impl.FewestPresses(w, h, lights); (got == 0) != (lights == 0) {
				t.Errorf("FewestPresses(%d, %d, %d) = %d", w, h, lights, got)
			}
		}
		for _, set := range someSets(w * h) {
			lights := impl.PressAll(w, h, 0, set)
			if got := impl.FewestPresses(w, h, lights); got > bits.OnesCount(uint(set)) {
				t.Errorf("FewestPresses(%d, %d, %d) = %d, but it comes from dark by %d", w, h, lights, got, set)
			}
		}
	})
}

func TestDarkBoardsMayBeTurned(t *testing.T) {
	eachLit(func(w, h int) {
		for _, lights := range someSets(w * h) {
			isDarkBy(t, h, w, turnedSet(w, h, lights), impl.FewestPresses(w, h, lights))
		}
	})
}

// P30.
func TestChasedLightsAreAtTheEnd(t *testing.T) {
	eachLit(func(w, h int) {
		for lights := range 1 << (w * h) {
			set, left := impl.ChaseDown(w, h, lights)
			if set < 0 || set >= 1<<(w*h) || set&(1<<w-1) != 0 {
				t.Errorf("ChaseDown(%d, %d, %d) presses %d", w, h, lights, set)
			}
			if left < 0 || left >= 1<<(w*h) || left&(1<<(w*h-w)-1) != 0 {
				t.Errorf("ChaseDown(%d, %d, %d) leaves %d", w, h, lights, left)
			}
			if got := impl.PressAll(w, h, lights, set); got != left || pressedOn(w, h, lights, set) != left {
				t.Errorf("ChaseDown(%d, %d, %d) presses %d and leaves %d, not %d", w, h, lights, set, left, got)
			}
		}
	})
}

// P64.
func TestRowsAreQuietByThirds(t *testing.T) {
	for w := 1; w <= impl.MaxSide; w++ {
		want := 1
		if (w+1)%3 == 0 {
			want = 2
		}
		if a, b := impl.QuietCount(w, 1), impl.QuietCount(1, w); a != want || b != want {
			t.Errorf("QuietCount of one row of %d cells = %d, of one column %d, not %d", w, a, b, want)
		}
	}
}

// P70.
func TestLightsAreChasedOnce(t *testing.T) {
	eachLit(func(w, h int) {
		for _, lights := range someSets(w * h) {
			_, left := impl.ChaseDown(w, h, lights)
			isChased(t, w, h, left, 0, left)
		}
	})
}

// notLit tests that there is nothing of a board and lights.
func notLit(t *testing.T, w, h, lights int) {
	t.Helper()
	isDarkBy(t, w, h, lights, -1)
	isChased(t, w, h, lights, -1, -1)
	if got := impl.PressAll(w, h, lights, 0); got != -1 {
		t.Errorf("PressAll(%d, %d, %d, 0) = %d", w, h, lights, got)
	}
	if got := impl.PressAll(w, h, 0, lights); got != -1 {
		t.Errorf("PressAll(%d, %d, 0, %d) = %d", w, h, lights, got)
	}
	if got := impl.PressAll(w, h, lights, lights); got != -1 {
		t.Errorf("PressAll(%d, %d, %d, %d) = %d", w, h, lights, lights, got)
	}
}

func TestInvalidBoardsOfLights(t *testing.T) {
	for _, c := range []struct{ w, h int }{
		// A side of 0, a negative one, and one above the limit, with few cells.
		{0, 1}, {1, 0}, {0, 0}, {0, 4}, {4, 0}, {-1, 2}, {2, -1}, {-2, -2}, {-3, -4}, {6, 1}, {1, 6}, {6, 2}, {2, 6}, {12, 1}, {1, 12},
		// Too many cells.
		{5, 3}, {3, 5}, {4, 4}, {5, 4}, {4, 5}, {5, 5}, {6, 6},
		// Sides of which the cells are few as the product wraps around.
		{math.MaxInt, 2}, {2, math.MaxInt}, {math.MinInt, 2}, {math.MaxInt, math.MaxInt}, {math.MinInt, math.MinInt}, {1 << 32, 1 << 32}, {1<<32 + 2, 2},
	} {
		for _, lights := range []int{0, 1, 3, -1, 1 << 12} {
			notLit(t, c.w, c.h, lights)
		}
		if got := impl.QuietCount(c.w, c.h); got != -1 {
			t.Errorf("QuietCount(%d, %d) = %d", c.w, c.h, got)
		}
	}
}

func TestInvalidLights(t *testing.T) {
	eachLit(func(w, h int) {
		n := w * h
		for _, set := range []int{-1, -2, -1 << n, math.MinInt, 1 << n, 1<<n + 1, 1<<(n+1) - 1, 1 << (n + 1), 1 << 32, 1 << 62, math.MaxInt} {
			notLit(t, w, h, set)
			if a, b := impl.PressAll(w, h, 1<<n-1, set), impl.PressAll(w, h, set, 1<<n-1); a != -1 || b != -1 {
				t.Errorf("PressAll on %d, %d by %d = %d, of it %d", w, h, set, a, b)
			}
		}
		// The greatest lights and the greatest set are some.
		if got, want := impl.PressAll(w, h, 1<<n-1, 1<<n-1), pressedOn(w, h, 1<<n-1, 1<<n-1); got != want {
			t.Errorf("PressAll on %d, %d of all by all = %d, not %d", w, h, got, want)
		}
	})
}
