package tests

import (
	"fmt"
	"math"
	"slices"
	"testing"

	"loop.example/piecesonboards/impl"
)

// never is more moves than any hunter needs.
const never = 1000

// turnsBy returns the cells in which a piece may be behind its turn, as it moves past no others, or stays.
func turnsBy(w, h int, kind string, from int, others ...int) []int {
	var cells []int
	for to := range w * h {
		if to == from || goes(w, kind, from, to, others) {
			cells = append(cells, to)
		}
	}
	return cells
}

// longestAnswer returns the greatest of the moves from where the hunter is and where the other one may go, past no hunter.
func longestAnswer(w, h int, kind string, moves [][]int, hunter, other int) int {
	longest := 0
	for _, cell := range turnsBy(w, h, kind, other, hunter) {
		longest = max(longest, moves[hunter][cell])
	}
	return longest
}

// fewestTurns returns how many moves a hunter needs if it needs so many behind its next one, each past no other.
func fewestTurns(w, h int, kind string, moves [][]int, hunter, other int) int {
	if hunter == other {
		return 0
	}
	fewest := never
	for _, cell := range turnsBy(w, h, kind, hunter, other) {
		if cell == other {
			return 1
		}
		fewest = min(fewest, 1+longestAnswer(w, h, kind, moves, cell, other))
	}
	return fewest
}

// catchesBy returns for each cell of a hunter and each one of another one the moves that it takes, -1 for never.
// At first they are never, and they are told again by each other until they stay; pieces go past no hunter and no other one.
func catchesBy(w, h int, kind string) [][]int {
	n := w * h
	moves := slices.Repeat([][]int{slices.Repeat([]int{never}, n)}, n)
	for changed := true; changed; {
		changed = false
		next := make([][]int, n)
		for hunter := range n {
			for other := range n {
				next[hunter] = append(next[hunter], fewestTurns(w, h, kind, moves, hunter, other))
			}
			changed = changed || !slices.Equal(next[hunter], moves[hunter])
		}
		moves = next
	}
	for _, row := range moves {
		for k := range row {
			if row[k] >= never {
				row[k] = -1
			}
		}
	}
	return moves
}

// mostBy returns the least, over all rows without -1, of their greatest numbers, -1 if each row has one.
func mostBy(rows [][]int) int {
	least := -1
	for _, row := range rows {
		if most := slices.Max(row); slices.Min(row) >= 0 && (least < 0 || most < least) {
			least = most
		}
	}
	return least
}

// foldsBy returns the cells that are folded away, told by lists of those that are left.
func foldsBy(w, h int, kind string) []int {
	var left, order []int
	for cell := range w * h {
		left = append(left, cell)
	}
	for {
		i := slices.IndexFunc(left, func(cell int) bool { return canFold(w, kind, left, cell) })
		if i < 0 {
			return order
		}
		order = append(order, left[i])
		left = slices.Delete(left, i, i+1)
	}
}

// canFold reports whether one of the cells that are left stands for a cell and for all of them to which a piece goes from it.
func canFold(w int, kind string, left []int, cell int) bool {
	for _, other := range left {
		stands := other != cell
		for _, near := range left {
			if near == cell || goes(w, kind, cell, near, nil) {
				stands = stands && (near == other || goes(w, kind, other, near, nil))
			}
		}
		if stands {
			return true
		}
	}
	return false
}

// haveCatch tests that a hunter needs so many moves.
func haveCatch(t *testing.T, w, h int, kind string, i, k, want int) {
	t.Helper()
	if got := impl.CatchMoves(w, h, kind, i, k); got != want {
		t.Errorf("CatchMoves(%d, %d, %q, %d, %d) = %d, not %d", w, h, kind, i, k, got, want)
	}
}

// haveMost tests that the hunter who chooses its cell needs so many moves, and whether it always catches.
func haveMost(t *testing.T, w, h int, kind string, want int) {
	t.Helper()
	if got := impl.CatchMost(w, h, kind); got != want {
		t.Errorf("CatchMost(%d, %d, %q) = %d, not %d", w, h, kind, got, want)
	}
	if got := impl.AlwaysCaught(w, h, kind); got != (want >= 0) {
		t.Errorf("AlwaysCaught(%d, %d, %q) is %v", w, h, kind, got)
	}
}

// haveFolds tests that just these cells are folded away.
func haveFolds(t *testing.T, w, h int, kind string, want []int) {
	t.Helper()
	same(t, fmt.Sprintf("FoldOrder(%d, %d, %q)", w, h, kind), impl.FoldOrder(w, h, kind), want)
}

// eachChase calls f with each small board, each kind of piece, and all cells of a hunter and of another one.
func eachChase(f func(w, h int, kind string, i, k int)) {
	eachSmall(func(w, h int, kind string) {
		for i := range w * h {
			for k := range w * h {
				f(w, h, kind, i, k)
			}
		}
	})
}

func TestCatchesOfSomeBoards(t *testing.T) {
	for _, c := range []struct {
		w, h       int
		kind       string
		i, k, want int
	}{
		// One row and one column: the hunter goes up to the end, and the other one goes there first.
		{5, 1, "step", 0, 4, 4}, {5, 1, "step", 0, 2, 4}, {5, 1, "step", 0, 1, 1}, {5, 1, "step", 2, 0, 2}, {5, 1, "step", 2, 4, 2}, {5, 1, "step", 1, 3, 3}, {5, 1, "step", 3, 3, 0},
		{5, 1, "king", 4, 0, 4}, {5, 1, "rook", 0, 4, 1}, {5, 1, "queen", 3, 0, 1}, {1, 4, "step", 0, 3, 3}, {1, 4, "step", 0, 2, 3}, {1, 4, "rook", 3, 0, 1},
		{5, 1, "bishop", 0, 1, -1}, {5, 1, "bishop", 2, 2, 0}, {1, 5, "knight", 0, 2, -1}, {1, 5, "knight", 4, 4, 0},
		// Boards in two pieces and more.
		{2, 2, "bishop", 0, 3, 1}, {2, 2, "bishop", 0, 1, -1}, {2, 2, "bishop", 1, 2, 1}, {3, 2, "bishop", 0, 2, 2}, {3, 2, "bishop", 3, 5, 2}, {3, 2, "bishop", 0, 5, -1},
		{3, 3, "bishop", 0, 2, 2}, {3, 3, "bishop", 0, 8, 1}, {3, 3, "bishop", 4, 6, 1}, {3, 3, "bishop", 1, 7, -1}, {3, 3, "bishop", 1, 5, 1}, {3, 3, "bishop", 1, 4, -1},
		{2, 2, "knight", 0, 3, -1}, {3, 2, "knight", 0, 5, 1}, {3, 2, "knight", 0, 2, -1}, {3, 2, "knight", 1, 1, 0}, {3, 2, "knight", 1, 4, -1},
		{3, 3, "knight", 0, 5, 1}, {3, 3, "knight", 0, 2, -1}, {3, 3, "knight", 4, 0, -1}, {3, 3, "knight", 0, 4, -1}, {3, 3, "knight", 4, 4, 0}, {4, 2, "knight", 0, 6, 1}, {4, 2, "knight", 0, 3, -1},
		// Rings, on which the other one is always ahead.
		{2, 2, "step", 0, 3, -1}, {2, 2, "rook", 1, 2, -1}, {2, 2, "rook", 0, 1, 1}, {3, 3, "step", 4, 0, -1}, {3, 3, "step", 4, 1, 1}, {3, 2, "rook", 0, 4, -1}, {3, 2, "rook", 0, 2, 1},
		// Kings and queens.
		{2, 2, "king", 0, 3, 1}, {3, 3, "king", 0, 8, 2}, {3, 3, "king", 0, 2, 2}, {4, 2, "king", 0, 7, 3}, {4, 2, "king", 0, 2, 3}, {4, 2, "king", 1, 7, 2}, {2, 4, "king", 1, 6, 3},
		{3, 3, "queen", 4, 0, 1}, {3, 3, "queen", 0, 5, 2}, {4, 2, "queen", 0, 7, 3}, {4, 2, "queen", 1, 7, 2}, {4, 2, "queen", 0, 6, 3},
	} {
		haveCatch(t, c.w, c.h, c.kind, c.i, c.k, c.want)
	}
}

func TestFoldsOfSomeBoards(t *testing.T) {
	for _, c := range []struct {
		w, h int
		kind string
		most int
		want []int
	}{
		// One row and one column.
		{2, 1, "step", 1, []int{0}}, {4, 1, "step", 2, []int{0, 1, 2}}, {5, 1, "king", 2, []int{0, 1, 2, 3}}, {5, 1, "rook", 1, []int{0, 1, 2, 3}}, {1, 5, "step", 2, []int{0, 1, 2, 3}},
		{1, 3, "queen", 1, []int{0, 1}}, {4, 1, "bishop", -1, nil}, {1, 2, "bishop", -1, nil}, {5, 1, "knight", -1, nil}, {1, 2, "knight", -1, nil},
		// Boards in two pieces and more, where a cell may be folded away behind a later one.
		{2, 2, "bishop", -1, []int{0, 1}}, {3, 2, "bishop", -1, []int{0, 2, 3, 1}}, {3, 3, "bishop", -1, []int{0, 2, 6, 4}}, {4, 2, "bishop", -1, []int{0, 3, 4, 1, 5, 2}},
		{2, 2, "knight", -1, nil}, {3, 2, "knight", -1, []int{0, 2}}, {2, 3, "knight", -1, []int{0, 1}}, {3, 3, "knight", -1, nil}, {4, 2, "knight", -1, []int{0, 1, 2, 3}},
		// Two and three rows.
		{2, 2, "step", -1, nil}, {3, 3, "step", -1, nil}, {2, 2, "rook", -1, nil}, {4, 2, "rook", -1, nil}, {3, 3, "rook", -1, nil},
		{2, 2, "king", 1, []int{0, 1, 2}}, {4, 2, "king", 2, []int{0, 1, 2, 3, 4, 5, 6}}, {3, 3, "king", 1, []int{0, 1, 2, 3, 4, 5, 6, 7}},
		{2, 2, "queen", 1, []int{0, 1, 2}}, {2, 4, "queen", 2, []int{0, 1, 2, 3, 4, 5, 6}}, {3, 3, "queen", 1, []int{0, 1, 2, 3, 4, 5, 6, 7}},
	} {
		haveFolds(t, c.w, c.h, c.kind, c.want)
		haveMost(t, c.w, c.h, c.kind, c.most)
	}
}

func TestChasesOfOneCell(t *testing.T) {
	for _, kind := range kinds {
		haveCatch(t, 1, 1, kind, 0, 0, 0)
		haveFolds(t, 1, 1, kind, nil)
		haveMost(t, 1, 1, kind, 0)
	}
}

// P42, told by ReachOf and CatchMoves alone.
func TestWhoIsCaughtIsCaughtStepByStep(t *testing.T) {
	eachSmall(func(w, h int, kind string) {
		n := w * h
		moves, turns := make([][]int, n), make([][]int, n)
		for i := range n {
			turns[i] = append(impl.ReachOf(w, h, kind, i, nil), i)
			for k := range n {
				moves[i] = append(moves[i], impl.CatchMoves(w, h, kind, i, k))
			}
		}
		for i := range n {
			for k := range n {
				want := -1
				switch {
				case i == k:
					want = 0
				case slices.Contains(turns[i], k):
					want = 1
				default:
					for _, next := range turns[i] {
						worst, sure := 0, true
						for _, answer := range turns[k] {
							worst, sure = max(worst, moves[next][answer]), sure && moves[next][answer] >= 0
						}
						if sure && (want < 0 || worst+1 < want) {
							want = worst + 1
						}
					}
				}
				haveCatch(t, w, h, kind, i, k, want)
			}
		}
	})
}

// P42 and P45, told by the cells alone, with pieces that stop lines.
func TestCatchesAreToldByAllTurns(t *testing.T) {
	eachSmall(func(w, h int, kind string) {
		moves := catchesBy(w, h, kind)
		for i, row := range moves {
			for k, want := range row {
				haveCatch(t, w, h, kind, i, k, want)
			}
		}
		haveMost(t, w, h, kind, mostBy(moves))
	})
}

func TestChasesMayBeTurned(t *testing.T) {
	eachChase(func(w, h int, kind string, i, k int) {
		haveCatch(t, h, w, kind, turned(w, h, i), turned(w, h, k), impl.CatchMoves(w, h, kind, i, k))
	})
	eachSmall(func(w, h int, kind string) {
		haveMost(t, h, w, kind, impl.CatchMost(w, h, kind))
	})
}

// P43.
func TestBoardsThatFoldAreThoseOfHunters(t *testing.T) {
	eachSmall(func(w, h int, kind string) {
		order := impl.FoldOrder(w, h, kind)
		if got := impl.AlwaysCaught(w, h, kind); got != (len(order) == w*h-1) {
			t.Errorf("AlwaysCaught(%d, %d, %q) is %v, and %v are folded away", w, h, kind, got, order)
		}
	})
}

// P44.
func TestBoardsFoldAlike(t *testing.T) {
	eachSmall(func(w, h int, kind string) {
		order := impl.FoldOrder(w, h, kind)
		if len(order) >= w*h {
			t.Errorf("FoldOrder(%d, %d, %q) = %v has all cells", w, h, kind, order)
		}
		for i, cell := range order {
			if cell < 0 || cell >= w*h || slices.Contains(order[:i], cell) {
				t.Errorf("FoldOrder(%d, %d, %q) = %v has cell %d at %d", w, h, kind, order, cell, i)
			}
		}
		if other := impl.FoldOrder(h, w, kind); len(other) != len(order) {
			t.Errorf("FoldOrder(%d, %d, %q) = %v, turned %v", w, h, kind, order, other)
		}
	})
}

// P43 and P44, with the cells and their order.
func TestFoldsAreToldByCells(t *testing.T) {
	eachSmall(func(w, h int, kind string) {
		haveFolds(t, w, h, kind, foldsBy(w, h, kind))
	})
}

// P45.
func TestHuntersChooseWell(t *testing.T) {
	eachSmall(func(w, h int, kind string) {
		most, always := impl.CatchMost(w, h, kind), impl.AlwaysCaught(w, h, kind)
		if most < -1 || (most >= 0) != always {
			t.Errorf("CatchMost(%d, %d, %q) = %d, AlwaysCaught is %v", w, h, kind, most, always)
		}
		var rows [][]int
		for i := range w * h {
			var row []int
			for k := range w * h {
				row = append(row, impl.CatchMoves(w, h, kind, i, k))
			}
			rows = append(rows, row)
		}
		if want := mostBy(rows); most != want {
			t.Errorf("CatchMost(%d, %d, %q) = %d, not %d by CatchMoves", w, h, kind, most, want)
		}
	})
}

// P66.
func TestKingsAreAlwaysCaught(t *testing.T) {
	eachSmall(func(w, h int, kind string) {
		got := impl.AlwaysCaught(w, h, kind)
		if kind == "king" && !got {
			t.Errorf("AlwaysCaught(%d, %d, king) is false", w, h)
		}
		if kind == "step" && got != (w == 1 || h == 1) {
			t.Errorf("AlwaysCaught(%d, %d, step) is %v", w, h, got)
		}
	})
}

// P73.
func TestBishopsHuntOneColour(t *testing.T) {
	eachSmall(func(w, h int, kind string) {
		if kind == "bishop" && w >= 2 && h >= 2 && impl.AlwaysCaught(w, h, kind) {
			t.Errorf("AlwaysCaught(%d, %d, bishop) holds", w, h)
		}
	})
	eachChase(func(w, h int, kind string, i, k int) {
		if kind == "bishop" && isOdd(w, i) != isOdd(w, k) {
			haveCatch(t, w, h, kind, i, k, -1)
		}
	})
}

func TestInvalidBoardsOfChases(t *testing.T) {
	for _, c := range []struct {
		w, h int
		kind string
	}{
		// A text that is no kind.
		{3, 3, ""}, {3, 3, "pawn"}, {3, 3, "King"}, {1, 1, "steps"}, {2, 2, "rook "}, {1, 1, " queen"},
		// A side of 0, a negative one, and one above the limit, with few cells.
		{0, 3, "king"}, {3, 0, "king"}, {0, 0, "rook"}, {-1, 3, "step"}, {3, -1, "step"}, {-1, -1, "queen"}, {-3, -3, "bishop"},
		{6, 1, "queen"}, {1, 6, "step"}, {9, 1, "rook"}, {1, 9, "king"}, {6, 0, "knight"},
		// Too many cells.
		{5, 2, "king"}, {2, 5, "king"}, {4, 3, "king"}, {3, 4, "knight"}, {5, 5, "bishop"}, {4, 4, "step"}, {5, 3, "queen"},
		// Sides of which the cells are few as the product wraps around.
		{math.MaxInt, math.MaxInt, "king"}, {math.MinInt, math.MinInt, "king"}, {1 << 32, 1 << 32, "rook"}, {math.MinInt, 2, "rook"}, {math.MaxInt, 1, "step"},
	} {
		haveFolds(t, c.w, c.h, c.kind, nil)
		haveMost(t, c.w, c.h, c.kind, -1)
		for _, cells := range [][2]int{{0, 0}, {0, 1}, {1, 0}, {2, 2}, {-1, -1}, {25, 25}} {
			haveCatch(t, c.w, c.h, c.kind, cells[0], cells[1], -1)
		}
	}
}

func TestInvalidCellsOfChases(t *testing.T) {
	eachSmall(func(w, h int, kind string) {
		n := w * h
		for _, cell := range []int{-1, -n, n, n + 1, 63, 64, 1 << 32, math.MaxInt, math.MinInt} {
			haveCatch(t, w, h, kind, cell, cell, -1)
			for valid := range n {
				haveCatch(t, w, h, kind, cell, valid, -1)
				haveCatch(t, w, h, kind, valid, cell, -1)
			}
		}
	})
}

func TestFoldsAreFresh(t *testing.T) {
	order := impl.FoldOrder(3, 3, "bishop")
	for i := range order[:cap(order)] {
		order[:cap(order)][i] = -7
	}
	haveFolds(t, 3, 3, "bishop", []int{0, 2, 6, 4})
	haveMost(t, 3, 3, "bishop", -1)
	haveCatch(t, 3, 3, "bishop", 0, 2, 2)
}
