package tests

import (
	"math"
	"math/bits"
	"slices"
	"testing"

	"loop.example/piecesonboards/impl"
)

// eachSmall calls f with each small board and each kind of piece.
func eachSmall(f func(w, h int, kind string)) {
	eachKind(func(w, h int, kind string) {
		if w*h <= 9 {
			f(w, h, kind)
		}
	})
}

// isLoose reports by each two cells of a set whether no piece goes from one to the other.
func isLoose(w int, kind string, set int) bool {
	cells := cellsOf(set)
	for _, from := range cells {
		for _, to := range cells {
			if goes(w, kind, from, to, nil) {
				return false
			}
		}
	}
	return true
}

// isGuarded reports by each cell whether it is in the set, or a piece goes to it from a cell of the set.
func isGuarded(w, h int, kind string, set int) bool {
	cells := cellsOf(set)
	for to := range w * h {
		if !slices.Contains(cells, to) && !slices.ContainsFunc(cells, func(from int) bool { return goes(w, kind, from, to, nil) }) {
			return false
		}
	}
	return true
}

// guardsBySets are the numbers of guards of a board, told by its sets of cells one by one.
type guardsBySets struct {
	guards, loose, count, full int
}

// guardsOf returns the guardsBySets of a small board.
func guardsOf(w, h int, kind string) guardsBySets {
	found := guardsBySets{guards: w * h, full: w * h}
	for set := range 1 << (w * h) {
		size := bits.OnesCount(uint(set))
		loose, guarded := isLoose(w, kind, set), isGuarded(w, h, kind, set)
		if guarded {
			found.guards = min(found.guards, size)
		}
		if loose {
			found.loose = max(found.loose, size)
			found.count++
		}
		if loose && guarded {
			found.full = min(found.full, size)
		}
	}
	return found
}

// asked returns what the program tells of the guards of a board.
func asked(w, h int, kind string) guardsBySets {
	return guardsBySets{impl.FewestGuards(w, h, kind), impl.MostLoose(w, h, kind), impl.CountLoose(w, h, kind), impl.FewestFull(w, h, kind)}
}

func TestGuardsOfSomeBoards(t *testing.T) {
	for _, c := range []struct {
		w, h int
		kind string
		want guardsBySets
	}{
		// One row and one column.
		{5, 1, "step", guardsBySets{2, 3, 13, 2}}, {5, 1, "king", guardsBySets{2, 3, 13, 2}}, {5, 1, "rook", guardsBySets{1, 1, 6, 1}},
		{5, 1, "queen", guardsBySets{1, 1, 6, 1}}, {5, 1, "bishop", guardsBySets{5, 5, 32, 5}}, {5, 1, "knight", guardsBySets{5, 5, 32, 5}},
		{1, 5, "step", guardsBySets{2, 3, 13, 2}}, {1, 4, "king", guardsBySets{2, 2, 8, 2}}, {1, 3, "rook", guardsBySets{1, 1, 4, 1}},
		{1, 2, "bishop", guardsBySets{2, 2, 4, 2}}, {2, 1, "step", guardsBySets{1, 1, 3, 1}},
		// Two rows.
		{2, 2, "step", guardsBySets{2, 2, 7, 2}}, {2, 2, "queen", guardsBySets{1, 1, 5, 1}}, {2, 2, "knight", guardsBySets{4, 4, 16, 4}},
		{3, 2, "knight", guardsBySets{4, 4, 36, 4}}, {3, 2, "bishop", guardsBySets{2, 4, 25, 2}},
		{4, 2, "step", guardsBySets{3, 4, 41, 3}}, {4, 2, "king", guardsBySets{2, 2, 21, 2}}, {4, 2, "knight", guardsBySets{4, 4, 81, 4}},
		{4, 2, "rook", guardsBySets{2, 2, 21, 2}}, {4, 2, "bishop", guardsBySets{4, 4, 64, 4}}, {4, 2, "queen", guardsBySets{2, 2, 15, 2}},
		{2, 4, "step", guardsBySets{3, 4, 41, 3}}, {2, 4, "queen", guardsBySets{2, 2, 15, 2}},
		// Three rows.
		{3, 3, "step", guardsBySets{3, 5, 63, 3}}, {3, 3, "king", guardsBySets{1, 4, 35, 1}}, {3, 3, "queen", guardsBySets{1, 2, 18, 1}},
	} {
		if got := asked(c.w, c.h, c.kind); got != c.want {
			t.Errorf("guards of %d, %d, %q = %v, not %v", c.w, c.h, c.kind, got, c.want)
		}
	}
}

func TestGuardsOfOneCell(t *testing.T) {
	for _, kind := range kinds {
		if got := asked(1, 1, kind); !impl.ValidSmall(1, 1, kind) || got != (guardsBySets{1, 1, 2, 1}) {
			t.Errorf("guards of one cell by %s = %v", kind, got)
		}
	}
}

// P17.
func TestSmallBoardsMayBeTurned(t *testing.T) {
	if impl.MaxCells != 9 {
		t.Errorf("MaxCells = %d", impl.MaxCells)
	}
	for w := -1; w <= 11; w++ {
		for h := -1; h <= 11; h++ {
			want := w >= 1 && w <= 5 && h >= 1 && h <= 5 && w*h <= 9
			for _, kind := range kinds {
				if got := impl.ValidSmall(w, h, kind); got != want || impl.ValidSmall(h, w, kind) != got {
					t.Errorf("ValidSmall(%d, %d, %q) = %v, turned %v", w, h, kind, got, impl.ValidSmall(h, w, kind))
				}
			}
		}
	}
}

// P18.
func TestGuardsAreNoMoreThanFullSets(t *testing.T) {
	eachSmall(func(w, h int, kind string) {
		got := asked(w, h, kind)
		if got.guards > got.full || got.full > got.loose {
			t.Errorf("guards of %d, %d, %q = %v are not in order", w, h, kind, got)
		}
		if other := asked(h, w, kind); other != got {
			t.Errorf("guards of %d, %d, %q = %v, turned %v", w, h, kind, got, other)
		}
	})
}

// P19.
func TestLooseRooksAreAsManyAsTheLesserSide(t *testing.T) {
	eachSmall(func(w, h int, kind string) {
		got := impl.MostLoose(w, h, kind)
		if kind == "rook" && got != min(w, h) {
			t.Errorf("MostLoose(%d, %d, rook) = %d", w, h, got)
		}
		if kind == "king" && got != (w+1)/2*((h+1)/2) {
			t.Errorf("MostLoose(%d, %d, king) = %d", w, h, got)
		}
		if other := impl.MostLoose(h, w, kind); other != got {
			t.Errorf("MostLoose(%d, %d, %q) = %d, turned %d", w, h, kind, got, other)
		}
	})
}

// P20.
func TestLooseSetsAreCountedOneByOne(t *testing.T) {
	eachSmall(func(w, h int, kind string) {
		got := impl.CountLoose(w, h, kind)
		if got < w*h+1 {
			t.Errorf("CountLoose(%d, %d, %q) = %d is no more than cells", w, h, kind, got)
		}
		count := 0
		for set := range 1 << (w * h) {
			if noneReached(w, h, kind, cellsOf(set)) {
				count++
			}
		}
		if got != count {
			t.Errorf("CountLoose(%d, %d, %q) = %d, not %d", w, h, kind, got, count)
		}
	})
}

// noneReached reports whether none of some cells is of ReachOf another one.
func noneReached(w, h int, kind string, cells []int) bool {
	for _, from := range cells {
		for _, to := range impl.ReachOf(w, h, kind, from, nil) {
			if slices.Contains(cells, to) {
				return false
			}
		}
	}
	return true
}

// P21.
func TestFullSetsOfKingsAreGuards(t *testing.T) {
	eachSmall(func(w, h int, kind string) {
		guards, full := impl.FewestGuards(w, h, kind), impl.FewestFull(w, h, kind)
		if full < guards {
			t.Errorf("FewestFull(%d, %d, %q) = %d, fewer than %d guards", w, h, kind, full, guards)
		}
		if want := (w + 2) / 3 * ((h + 2) / 3); kind == "king" && (guards != want || full != want) {
			t.Errorf("guards of %d, %d by king = %d, full %d, not %d", w, h, guards, full, want)
		}
	})
}

// P18 to P21, told by sets of cells and the cells alone.
func TestGuardsAreToldByAllSets(t *testing.T) {
	eachSmall(func(w, h int, kind string) {
		if got, want := asked(w, h, kind), guardsOf(w, h, kind); got != want {
			t.Errorf("guards of %d, %d, %q = %v, not %v", w, h, kind, got, want)
		}
	})
}

// P57.
func TestLooseRooksAreCountedByRows(t *testing.T) {
	for n := 1; n*n <= impl.MaxCells; n++ {
		sum := 0
		for _, count := range impl.RookCounts(slices.Repeat([]int{1<<n - 1}, n)) {
			sum += count
		}
		if got := impl.CountLoose(n, n, "rook"); got != sum {
			t.Errorf("CountLoose(%d, %d, rook) = %d, not %d", n, n, got, sum)
		}
	}
}

// P65.
func TestQueensGuardAsRooksAndMore(t *testing.T) {
	eachSmall(func(w, h int, kind string) {
		queens := impl.FewestGuards(w, h, "queen")
		if other := impl.FewestGuards(w, h, kind); kind != "step" && kind != "knight" && queens > other {
			t.Errorf("FewestGuards(%d, %d, queen) = %d, more than %d by %s", w, h, queens, other, kind)
		}
	})
}

func TestInvalidSmallBoards(t *testing.T) {
	for _, c := range []struct {
		w, h int
		kind string
	}{
		// A text that is no kind.
		{3, 3, ""}, {3, 3, "pawn"}, {3, 3, "King"}, {2, 2, "rook "}, {1, 1, " queen"},
		// A side of 0, a negative one, and one above the limit, with few cells.
		{0, 3, "king"}, {3, 0, "king"}, {0, 0, "rook"}, {-1, 3, "step"}, {3, -1, "step"}, {-1, -1, "queen"}, {-3, -3, "bishop"},
		{6, 1, "queen"}, {1, 6, "queen"}, {9, 1, "rook"}, {1, 9, "rook"}, {6, 0, "knight"},
		// Too many cells.
		{5, 2, "king"}, {2, 5, "king"}, {4, 3, "queen"}, {3, 4, "knight"}, {5, 5, "bishop"}, {4, 4, "step"}, {5, 3, "rook"},
		// Sides of which the cells are few as the product wraps around.
		{math.MaxInt, math.MaxInt, "king"}, {math.MinInt, math.MinInt, "king"}, {1 << 32, 1 << 32, "rook"}, {math.MinInt, 2, "rook"}, {math.MaxInt, 1, "step"},
	} {
		if impl.ValidSmall(c.w, c.h, c.kind) {
			t.Errorf("ValidSmall(%d, %d, %q) holds", c.w, c.h, c.kind)
		}
		if got := asked(c.w, c.h, c.kind); got != (guardsBySets{-1, -1, -1, -1}) {
			t.Errorf("guards of %d, %d, %q = %v", c.w, c.h, c.kind, got)
		}
	}
}
