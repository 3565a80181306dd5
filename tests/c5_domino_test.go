package tests

import (
	"fmt"
	"math"
	"math/bits"
	"slices"
	"testing"

	"loop.example/piecesonboards/impl"
)

// coverTable has at row h-1 and column w-1 in how many ways a board of w columns and h rows is covered.
var coverTable = [5][5]int{
	{0, 1, 0, 1, 0},
	{1, 2, 3, 5, 8},
	{0, 3, 0, 11, 0},
	{1, 5, 11, 36, 95},
	{0, 8, 0, 95, 0},
}

// smallSets returns all sets of at most so many of n cells.
func smallSets(n, most int) []int {
	sets := []int{0}
	for cell := range n {
		for _, set := range sets {
			if bits.OnesCount(uint(set)) < most {
				sets = append(sets, set|1<<cell)
			}
		}
	}
	return sets
}

// holeSets returns sets of holes of a board of n cells: all of them where they are few, and otherwise some, and those of few holes.
func holeSets(n int) []int {
	if n <= 9 {
		return smallSets(n, n)
	}
	// An odd board is covered just if its holes are odd in number.
	return append(someSets(n), smallSets(n, 2+n%2)...)
}

// eachHoles calls f with the columns and the rows of each board and with holes of it.
func eachHoles(f func(w, h int, holes []int)) {
	eachBoard(func(w, h int) {
		for _, set := range holeSets(w * h) {
			f(w, h, cellsOf(set))
		}
	})
}

// isOdd reports whether the row and the column of a cell are together odd.
func isOdd(w, cell int) bool {
	return (cell/w+cell%w)%2 == 1
}

// coversByChoices returns in how many ways the cells but the holes are covered, without a cover being made:
// each even cell chooses an odd one beside it, and choices that leave out odd cells are taken away and put back in turn.
func coversByChoices(w, h int, holes []int) int {
	var even, odd []int
	for cell := range w * h {
		switch {
		case slices.Contains(holes, cell):
		case isOdd(w, cell):
			odd = append(odd, cell)
		default:
			even = append(even, cell)
		}
	}
	if len(even) != len(odd) {
		return 0
	}
	choices := make([]int, len(even))
	for i, cell := range even {
		for k, other := range odd {
			if goes(w, "step", cell, other, nil) {
				choices[i] |= 1 << k
			}
		}
	}
	sum := 0
	for set := range 1 << len(odd) {
		product := 1
		for _, choice := range choices {
			product *= bits.OnesCount(uint(choice & set))
		}
		if bits.OnesCount(uint(set))%2 != len(odd)%2 {
			product = -product
		}
		sum += product
	}
	return sum
}

// withPiece returns the holes with two cells more, ascending.
func withPiece(holes []int, piece []int) []int {
	list := slices.Concat(holes, piece)
	slices.Sort(list)
	return list
}

// piecesOf returns the cells of each piece of a cover by its number, and of one number more, which none has.
func piecesOf(numbers []int) [][]int {
	pieces := make([][]int, len(numbers)+1)
	for cell, number := range numbers {
		if number >= 0 && number < len(numbers) {
			pieces[number] = append(pieces[number], cell)
		}
	}
	for len(pieces) > 0 && len(pieces[len(pieces)-1]) == 0 {
		pieces = pieces[:len(pieces)-1]
	}
	return pieces
}

func TestCoversOfSomeBoards(t *testing.T) {
	for _, c := range []struct {
		w, h  int
		holes []int
		want  int
	}{
		// No cell but holes, and one cell alone.
		{1, 1, nil, 0}, {1, 1, []int{0}, 1}, {2, 1, []int{0, 1}, 1}, {1, 3, []int{0, 1, 2}, 1}, {2, 1, []int{0}, 0},
		{2, 2, []int{0, 1, 2, 3}, 1}, {2, 2, []int{1, 2, 3}, 0},
		// Holes that leave cells apart.
		{3, 1, []int{1}, 0}, {3, 1, []int{0}, 1}, {5, 1, []int{2}, 1}, {5, 1, []int{1}, 0}, {1, 5, []int{2}, 1}, {1, 5, []int{3}, 0},
		{3, 3, []int{1, 3, 4}, 0}, {3, 3, []int{0, 1, 2, 3, 5, 6, 8}, 1}, {3, 2, []int{1, 4}, 1}, {2, 3, []int{2, 3}, 1},
		// An odd board with one hole of the greater colour, and of the lesser one.
		{3, 3, []int{4}, 2}, {3, 3, []int{8}, 4}, {3, 3, []int{3}, 0}, {5, 5, []int{0}, 192}, {5, 5, []int{12}, 196}, {5, 5, []int{1}, 0}, {5, 5, []int{7}, 0},
		{5, 3, []int{0}, 15}, {5, 3, []int{2}, 15}, {5, 3, []int{1}, 0},
		// Two holes of both colours.
		{4, 4, []int{0, 3}, 12}, {4, 4, []int{0, 1}, 18}, {4, 4, []int{0, 15}, 0},
	} {
		what := fmt.Sprintf("of %d, %d without %v", c.w, c.h, c.holes)
		if got := impl.TileCount(c.w, c.h, c.holes); got != c.want {
			t.Errorf("TileCount %s = %d, not %d", what, got, c.want)
		}
		if got := impl.TileByRows(c.w, c.h, c.holes); got != c.want {
			t.Errorf("TileByRows %s = %d, not %d", what, got, c.want)
		}
		if list, ok := impl.TileFirst(c.w, c.h, c.holes); ok != (c.want > 0) || !ok && len(list) != 0 {
			t.Errorf("TileFirst %s = %v, %v", what, list, ok)
		}
	}
}

func TestCoversOfBoardsWithoutHoles(t *testing.T) {
	eachBoard(func(w, h int) {
		want := coverTable[h-1][w-1]
		for _, holes := range [][]int{nil, {}} {
			if a, b := impl.TileCount(w, h, holes), impl.TileByRows(w, h, holes); a != want || b != want {
				t.Errorf("covers of %d, %d = %d by cells and %d by rows, not %d", w, h, a, b, want)
			}
			if _, ok := impl.TileFirst(w, h, holes); ok != (want > 0) {
				t.Errorf("TileFirst(%d, %d) is %v of %d covers", w, h, ok, want)
			}
		}
	})
}

// P22.
func TestCoversByCellsAreCoversByRows(t *testing.T) {
	eachHoles(func(w, h int, holes []int) {
		want := coversByChoices(w, h, holes)
		if a, b := impl.TileCount(w, h, holes), impl.TileByRows(w, h, holes); a != want || b != want {
			t.Errorf("covers of %d, %d without %v = %d by cells and %d by rows, not %d", w, h, holes, a, b, want)
		}
		if odd := (w*h-len(holes))%2 == 1; odd && impl.TileCount(w, h, holes) != 0 {
			t.Errorf("TileCount(%d, %d, %v) = %d of an odd number of cells", w, h, holes, impl.TileCount(w, h, holes))
		}
	})
}

// P23.
func TestCoveredBoardsMayBeTurned(t *testing.T) {
	eachHoles(func(w, h int, holes []int) {
		var other []int
		for _, cell := range holes {
			other = append(other, turned(w, h, cell))
		}
		slices.Sort(other)
		if a, b := impl.TileByRows(w, h, holes), impl.TileByRows(h, w, other); a != b {
			t.Errorf("TileByRows(%d, %d, %v) = %d, turned %d", w, h, holes, a, b)
		}
	})
}

// P24.
func TestCoversBySignsAreCoversByRows(t *testing.T) {
	eachBoard(func(w, h int) {
		got := impl.TileBySigns(w, h)
		if want := coverTable[h-1][w-1]; got != want || impl.TileByRows(w, h, nil) != got {
			t.Errorf("TileBySigns(%d, %d) = %d, by rows %d, not %d", w, h, got, impl.TileByRows(w, h, nil), want)
		}
		if other := impl.TileBySigns(h, w); other != got {
			t.Errorf("TileBySigns(%d, %d) = %d, turned %d", w, h, got, other)
		}
	})
}

func TestFirstCoversOfSomeBoards(t *testing.T) {
	for _, c := range []struct {
		w, h        int
		holes, want []int
	}{
		{1, 1, []int{0}, []int{-1}}, {2, 1, nil, []int{0, 0}}, {1, 4, nil, []int{0, 0, 1, 1}}, {5, 1, []int{2}, []int{0, 0, -1, 1, 1}},
		{2, 2, []int{0, 1, 2, 3}, []int{-1, -1, -1, -1}}, {2, 2, []int{1, 3}, []int{0, -1, 0, -1}}, {2, 2, []int{2, 3}, []int{0, 0, -1, -1}},
		// The first cell has no piece in its row, though the next one is not covered.
		{3, 2, []int{4, 5}, []int{0, 1, 1, 0, -1, -1}}, {3, 3, []int{2, 5, 7}, nil}, {3, 3, []int{4, 5, 6}, []int{0, 1, 1, 0, -1, -1, -1, 2, 2}},
		{3, 2, []int{3, 4}, []int{0, 0, 1, -1, -1, 1}}, {3, 2, []int{2, 3}, []int{0, 0, -1, -1, 1, 1}}, {3, 2, []int{2, 5}, []int{0, 0, -1, 1, 1, -1}},
		{2, 3, nil, []int{0, 0, 1, 1, 2, 2}}, {2, 3, []int{4, 5}, []int{0, 0, 1, 1, -1, -1}}, {2, 3, []int{0, 4}, nil},
		{3, 3, []int{0}, []int{-1, 0, 0, 1, 1, 2, 3, 3, 2}}, {3, 3, []int{4}, []int{0, 0, 1, 2, -1, 1, 2, 3, 3}}, {3, 3, []int{8}, []int{0, 0, 1, 2, 2, 1, 3, 3, -1}},
		{3, 4, nil, []int{0, 0, 1, 2, 2, 1, 3, 3, 4, 5, 5, 4}}, {4, 3, nil, []int{0, 0, 1, 1, 2, 2, 3, 3, 4, 4, 5, 5}},
	} {
		got, ok := impl.TileFirst(c.w, c.h, c.holes)
		if ok != (c.want != nil) || !slices.Equal(got, c.want) {
			t.Errorf("TileFirst(%d, %d, %v) = %v, %v, not %v", c.w, c.h, c.holes, got, ok, c.want)
		}
	}
}

// P25.
func TestTheFirstWayCoversAll(t *testing.T) {
	eachHoles(func(w, h int, holes []int) {
		numbers, ok := impl.TileFirst(w, h, holes)
		if there := impl.TileCount(w, h, holes) != 0; ok != there || !ok && len(numbers) != 0 {
			t.Errorf("TileFirst(%d, %d, %v) = %v, %v, covers are there: %v", w, h, holes, numbers, ok, there)
		}
		if !ok {
			return
		}
		if len(numbers) != w*h {
			t.Fatalf("TileFirst(%d, %d, %v) = %v", w, h, holes, numbers)
		}
		for cell, number := range numbers {
			if slices.Contains(holes, cell) != (number == -1) {
				t.Errorf("TileFirst(%d, %d, %v) = %v, with %d in cell %d", w, h, holes, numbers, number, cell)
			}
		}
		pieces := piecesOf(numbers)
		if 2*len(pieces) != w*h-len(holes) {
			t.Fatalf("TileFirst(%d, %d, %v) = %v has %d pieces", w, h, holes, numbers, len(pieces))
		}
		for number, piece := range pieces {
			if len(piece) != 2 || !goes(w, "step", piece[0], piece[1], nil) {
				t.Fatalf("TileFirst(%d, %d, %v) = %v, where piece %d has the cells %v", w, h, holes, numbers, number, piece)
			}
		}
		isFirstWay(t, w, h, holes, pieces)
	})
}

// isFirstWay tests that each piece has the first cell that is not covered, and goes down just if no cover has it in its row.
func isFirstWay(t *testing.T, w, h int, holes []int, pieces [][]int) {
	t.Helper()
	taken := slices.Clone(holes)
	for number, piece := range pieces {
		first := 0
		for slices.Contains(taken, first) {
			first++
		}
		if piece[0] != first {
			t.Errorf("board %d, %d without %v: piece %d has the cells %v, not the first one %d", w, h, holes, number, piece, first)
		}
		flat := first%w+1 < w && !slices.Contains(taken, first+1) && coversByChoices(w, h, withPiece(taken, []int{first, first + 1})) > 0
		if flat != (first%w+1 < w && piece[1] == first+1) {
			t.Errorf("board %d, %d without %v: piece %d has the cells %v, a cover with it in the row is there: %v", w, h, holes, number, piece, flat)
		}
		taken = withPiece(taken, piece)
	}
}

// P58.
func TestTwoRowsAreCoveredBySums(t *testing.T) {
	counts := []int{1, 1, 2, 3, 5, 8}
	for w := 1; w <= impl.MaxSide; w++ {
		for what, got := range map[string]int{
			"by cells": impl.TileCount(w, 2, nil), "by rows": impl.TileByRows(w, 2, nil), "by signs": impl.TileBySigns(w, 2), "turned": impl.TileCount(2, w, nil),
		} {
			if got != counts[w] {
				t.Errorf("covers of two rows of %d columns %s = %d, not %d", w, what, got, counts[w])
			}
		}
		if w > 2 && impl.TileCount(w, 2, nil) != impl.TileCount(w-1, 2, nil)+impl.TileCount(w-2, 2, nil) {
			t.Errorf("TileCount(%d, 2) = %d is no sum", w, impl.TileCount(w, 2, nil))
		}
		if a, b := impl.TileCount(w, 1, nil), impl.TileCount(1, w, nil); a != 1-w%2 || b != 1-w%2 {
			t.Errorf("TileCount of one row of %d cells = %d, of one column %d", w, a, b)
		}
	}
}

// P59.
func TestTwoHolesOfOneColourLeaveNoWay(t *testing.T) {
	eachBoard(func(w, h int) {
		if w*h%2 == 1 {
			return
		}
		for a := range w * h {
			for b := a + 1; b < w*h; b++ {
				if isOdd(w, a) != isOdd(w, b) {
					continue
				}
				holes := []int{a, b}
				if got := impl.TileCount(w, h, holes); got != 0 {
					t.Errorf("TileCount(%d, %d, %v) = %d", w, h, holes, got)
				}
				if got := impl.TileByRows(w, h, holes); got != 0 {
					t.Errorf("TileByRows(%d, %d, %v) = %d", w, h, holes, got)
				}
				if list, ok := impl.TileFirst(w, h, holes); ok || len(list) != 0 {
					t.Errorf("TileFirst(%d, %d, %v) = %v", w, h, holes, list)
				}
			}
		}
	})
}

// P75.
func TestCoversLeaveNoOddRow(t *testing.T) {
	eachHoles(func(w, h int, holes []int) {
		numbers, _ := impl.TileFirst(w, h, holes)
		all := impl.TileCount(w, h, holes)
		for _, piece := range piecesOf(numbers) {
			fewer := impl.TileCount(w, h, withPiece(holes, piece))
			if all < fewer || fewer < 1 {
				t.Errorf("TileCount(%d, %d, %v) = %d, without %v too %d", w, h, holes, all, piece, fewer)
			}
		}
	})
}

// notCovered tests that there is nothing of a board and holes.
func notCovered(t *testing.T, w, h int, holes []int) {
	t.Helper()
	if got := impl.TileCount(w, h, holes); got != -1 {
		t.Errorf("TileCount(%d, %d, %v) = %d", w, h, holes, got)
	}
	if got := impl.TileByRows(w, h, holes); got != -1 {
		t.Errorf("TileByRows(%d, %d, %v) = %d", w, h, holes, got)
	}
	if list, ok := impl.TileFirst(w, h, holes); ok || len(list) != 0 {
		t.Errorf("TileFirst(%d, %d, %v) = %v, %v", w, h, holes, list, ok)
	}
}

func TestInvalidBoardsOfDominoes(t *testing.T) {
	for _, c := range []struct{ w, h int }{
		// A side of 0, a negative one, and one above the limit.
		{0, 1}, {1, 0}, {0, 0}, {0, 4}, {4, 0}, {-1, 2}, {2, -1}, {-2, -2}, {-5, 5}, {6, 1}, {1, 6}, {6, 6}, {2, 6}, {6, 2}, {100, 2},
		// Sides of which the product wraps around.
		{math.MaxInt, 2}, {2, math.MaxInt}, {math.MinInt, 2}, {math.MaxInt, math.MaxInt}, {math.MinInt, math.MinInt}, {1 << 32, 1 << 32}, {1<<32 + 2, 2},
	} {
		for _, holes := range [][]int{nil, {}, {0}, {0, 1}, {-1}} {
			notCovered(t, c.w, c.h, holes)
		}
		if got := impl.TileBySigns(c.w, c.h); got != -1 {
			t.Errorf("TileBySigns(%d, %d) = %d", c.w, c.h, got)
		}
	}
}

func TestInvalidHoles(t *testing.T) {
	eachBoard(func(w, h int) {
		n := w * h
		lists := [][]int{
			// A hole that is no cell of the board, and a negative one.
			{n}, {n + 1}, {n, n + 1}, {0, n}, {-1}, {-n}, {-2, -1}, {-1, 0}, {-1, n - 1}, {math.MaxInt}, {math.MinInt}, {math.MinInt, math.MaxInt}, {0, 1 << 32}, {63}, {64},
			append(cellsOf(1<<n-1), n),
			// A hole twice.
			{0, 0}, {n - 1, n - 1}, append(cellsOf(1<<n-1), n-1), slices.Repeat([]int{0}, 30),
		}
		if n > 1 {
			// Holes that do not ascend.
			lists = append(lists, []int{1, 0}, []int{n - 1, 0}, []int{0, 1, 0}, []int{0, n - 1, n - 2}, otherWayRound(cellsOf(1<<n-1)))
		}
		if n > 2 {
			lists = append(lists, []int{1, 0, 2}, []int{0, 2, 1}, []int{0, 1, 1}, []int{0, 0, 1})
		}
		for _, holes := range lists {
			notCovered(t, w, h, holes)
		}
	})
}

func TestCoversAreFreshAndHolesStay(t *testing.T) {
	kept := []int{0, 1, 2, 99, 99}
	holes := kept[:3]
	want := []int{-1, -1, -1, 0, 0, 1, 2, 2, 1}
	for range 2 {
		if a, b := impl.TileCount(3, 3, holes), impl.TileByRows(3, 3, holes); a != 3 || b != 3 {
			t.Errorf("covers = %d by cells and %d by rows, not 3", a, b)
		}
		got, ok := impl.TileFirst(3, 3, holes)
		if !ok || !slices.Equal(got, want) {
			t.Errorf("TileFirst = %v, %v, not %v", got, ok, want)
		}
		for i := range got[:cap(got)] {
			got[:cap(got)][i] = -7
		}
		same(t, "the holes", kept, []int{0, 1, 2, 99, 99})
	}
}
