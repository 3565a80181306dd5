package tests

import (
	"fmt"
	"math"
	"slices"
	"testing"

	"loop.example/piecesonboards/impl"
)

// goes reports by the two cells alone whether a piece goes from one to the other, with no others between.
func goes(w int, kind string, from, to int, others []int) bool {
	rows, cols := away(from/w, to/w), away(from%w, to%w)
	long := max(rows, cols)
	straight := from != to && (rows == 0 || cols == 0)
	slanted := from != to && rows == cols
	switch kind {
	case "step":
		return straight && long == 1
	case "king":
		return long == 1
	case "knight":
		return rows*cols == 2
	case "rook":
		slanted = false
	case "bishop":
		straight = false
	}
	if !straight && !slanted {
		return false
	}
	// The cells between are those that divide the way from one cell to the other evenly.
	for part := 1; part < long; part++ {
		if slices.Contains(others, from+(to-from)/long*part) {
			return false
		}
	}
	return true
}

// eachReach calls f with boards, kinds, cells and others.
func eachReach(f func(w, h int, kind string, cell int, others []int)) {
	eachBoard(func(w, h int) {
		for _, set := range someSets(w * h) {
			others := cellsOf(set)
			for _, kind := range kinds {
				for cell := range w * h {
					f(w, h, kind, cell, others)
				}
			}
		}
	})
}

func TestKindsOfPieces(t *testing.T) {
	if impl.MaxSide != 5 {
		t.Errorf("MaxSide = %d", impl.MaxSide)
	}
	for _, kind := range kinds {
		if !impl.ValidKind(kind) {
			t.Errorf("%q is no kind", kind)
		}
	}
	for _, kind := range []string{"", "King", "ROOK", "pawn", "steps", "ste", " rook", "rook ", "queen\n", "king\x00", "knight bishop"} {
		if impl.ValidKind(kind) {
			t.Errorf("%q is a kind", kind)
		}
	}
}

// P1, with all cells told.
func TestEachKindMovesFromTheMiddle(t *testing.T) {
	for kind, want := range map[string][]int{
		"step":   {7, 11, 13, 17},
		"king":   {6, 7, 8, 11, 13, 16, 17, 18},
		"knight": {1, 3, 5, 9, 15, 19, 21, 23},
		"rook":   {2, 7, 10, 11, 13, 14, 17, 22},
		"bishop": {0, 4, 6, 8, 16, 18, 20, 24},
		"queen":  {0, 2, 4, 6, 7, 8, 10, 11, 13, 14, 16, 17, 18, 20, 22, 24},
	} {
		same(t, "ReachOf by "+kind, impl.ReachOf(5, 5, kind, 12, nil), want)
		if !impl.ValidKind(kind) || len(impl.ReachOf(5, 5, kind, 12, []int{})) == 0 {
			t.Errorf("%s goes nowhere", kind)
		}
	}
}

func TestReachFromCornersAndEdges(t *testing.T) {
	for _, c := range []struct {
		w, h int
		kind string
		cell int
		want []int
	}{
		{1, 1, "queen", 0, nil}, {1, 1, "knight", 0, nil}, {1, 1, "step", 0, nil},
		{5, 1, "step", 0, []int{1}}, {5, 1, "step", 4, []int{3}}, {5, 1, "king", 2, []int{1, 3}},
		{5, 1, "rook", 0, []int{1, 2, 3, 4}}, {5, 1, "queen", 3, []int{0, 1, 2, 4}},
		{5, 1, "bishop", 2, nil}, {5, 1, "knight", 2, nil},
		{1, 5, "rook", 4, []int{0, 1, 2, 3}}, {1, 5, "queen", 0, []int{1, 2, 3, 4}}, {1, 5, "king", 4, []int{3}},
		{1, 5, "bishop", 0, nil}, {1, 5, "knight", 0, nil},
		{4, 2, "knight", 0, []int{6}}, {4, 2, "bishop", 4, []int{1}}, {4, 2, "step", 3, []int{2, 7}}, {4, 2, "king", 4, []int{0, 1, 5}},
		{5, 5, "step", 0, []int{1, 5}}, {5, 5, "king", 24, []int{18, 19, 23}}, {5, 5, "knight", 20, []int{11, 17}},
		{5, 5, "rook", 4, []int{0, 1, 2, 3, 9, 14, 19, 24}}, {5, 5, "bishop", 4, []int{8, 12, 16, 20}},
		{5, 5, "queen", 0, []int{1, 2, 3, 4, 5, 6, 10, 12, 15, 18, 20, 24}},
		{3, 4, "bishop", 2, []int{4, 6}}, {3, 4, "bishop", 9, []int{5, 7}},
	} {
		same(t, fmt.Sprintf("ReachOf(%d, %d, %q, %d)", c.w, c.h, c.kind, c.cell), impl.ReachOf(c.w, c.h, c.kind, c.cell, nil), c.want)
	}
}

func TestReachPastOthers(t *testing.T) {
	for _, c := range []struct {
		kind   string
		cell   int
		others []int
		want   []int
	}{
		{"rook", 0, []int{3}, []int{1, 2, 3, 5, 10, 15, 20}},
		{"rook", 0, []int{3, 4, 5, 10}, []int{1, 2, 3, 5}},
		{"rook", 12, []int{2, 7, 11, 12, 14, 24}, []int{7, 11, 13, 14, 17, 22}},
		{"bishop", 24, []int{12}, []int{12, 18}},
		{"bishop", 0, []int{1, 5}, []int{6, 12, 18, 24}},
		{"queen", 20, []int{0, 16, 21, 24}, []int{0, 5, 10, 15, 16, 21}},
		{"knight", 0, []int{1, 5, 6, 7, 11}, []int{7, 11}},
		{"king", 0, []int{0, 1, 6}, []int{1, 5, 6}},
		{"step", 12, []int{7, 11, 12, 13, 17}, []int{7, 11, 13, 17}},
	} {
		same(t, fmt.Sprintf("ReachOf(5, 5, %q, %d, %v)", c.kind, c.cell, c.others), impl.ReachOf(5, 5, c.kind, c.cell, c.others), c.want)
	}
	same(t, "ReachOf of one row", impl.ReachOf(5, 1, "queen", 4, []int{1}), []int{1, 2, 3})
	same(t, "ReachOf of one column", impl.ReachOf(1, 5, "rook", 1, []int{3}), []int{0, 2, 3})
}

func TestReachIsToldByBothCells(t *testing.T) {
	eachReach(func(w, h int, kind string, cell int, others []int) {
		var want []int
		for to := range w * h {
			if goes(w, kind, cell, to, others) {
				want = append(want, to)
			}
		}
		got := impl.ReachOf(w, h, kind, cell, others)
		if !slices.Equal(got, want) {
			t.Errorf("ReachOf(%d, %d, %q, %d, %v) = %v, not %v", w, h, kind, cell, others, got, want)
		}
	})
}

// P2.
func TestMovesMayBeTakenBack(t *testing.T) {
	eachReach(func(w, h int, kind string, cell int, others []int) {
		free := impl.ReachOf(w, h, kind, cell, nil)
		for _, to := range impl.ReachOf(w, h, kind, cell, others) {
			if !slices.Contains(impl.ReachOf(w, h, kind, to, others), cell) {
				t.Errorf("board %d, %d: %s does not go back from %d to %d past %v", w, h, kind, to, cell, others)
			}
			if !slices.Contains(free, to) {
				t.Errorf("board %d, %d: %s goes from %d to %d just past %v", w, h, kind, cell, to, others)
			}
		}
	})
}

func TestMovesFromOfSomeBoards(t *testing.T) {
	for _, c := range []struct {
		w, h int
		kind string
		cell int
		want []int
	}{
		{1, 1, "king", 0, []int{0}},
		{5, 1, "step", 0, []int{0, 1, 2, 3, 4}},
		{5, 1, "rook", 1, []int{1, 0, 1, 1, 1}},
		{5, 1, "bishop", 2, []int{-1, -1, 0, -1, -1}},
		{1, 4, "king", 3, []int{3, 2, 1, 0}},
		{1, 4, "knight", 0, []int{0, -1, -1, -1}},
		{4, 2, "knight", 0, []int{0, -1, -1, -1, -1, -1, 1, -1}},
		{4, 3, "knight", 0, []int{0, 3, 2, 5, 3, 4, 1, 2, 2, 1, 4, 3}},
		{3, 2, "bishop", 1, []int{-1, 0, -1, 1, -1, 1}},
		{4, 3, "step", 5, []int{2, 1, 2, 3, 1, 0, 1, 2, 2, 1, 2, 3}},
		{4, 3, "king", 0, []int{0, 1, 2, 3, 1, 1, 2, 3, 2, 2, 2, 3}},
		{3, 3, "queen", 1, []int{1, 0, 1, 1, 1, 1, 2, 1, 2}},
	} {
		same(t, fmt.Sprintf("MovesFrom(%d, %d, %q, %d)", c.w, c.h, c.kind, c.cell), impl.MovesFrom(c.w, c.h, c.kind, c.cell), c.want)
	}
}

// fewestBy returns the fewest moves between all cells, by ways over ever more cells between.
func fewestBy(w, h int, kind string) [][]int {
	const far = 1000
	n := w * h
	moves := make([][]int, n)
	for from := range n {
		moves[from] = slices.Repeat([]int{far}, n)
		for to := range n {
			if goes(w, kind, from, to, nil) {
				moves[from][to] = 1
			}
		}
		moves[from][from] = 0
	}
	for over := range n {
		for from := range n {
			for to := range n {
				moves[from][to] = min(moves[from][to], moves[from][over]+moves[over][to])
			}
		}
	}
	for _, row := range moves {
		for to := range row {
			if row[to] == far {
				row[to] = -1
			}
		}
	}
	return moves
}

// P3.
func TestMovesAreAsManyBothWays(t *testing.T) {
	eachKind(func(w, h int, kind string) {
		n := w * h
		want := fewestBy(w, h, kind)
		moves := make([][]int, n)
		for cell := range n {
			moves[cell] = impl.MovesFrom(w, h, kind, cell)
			if !slices.Equal(moves[cell], want[cell]) {
				t.Fatalf("MovesFrom(%d, %d, %q, %d) = %v, not %v", w, h, kind, cell, moves[cell], want[cell])
			}
		}
		for cell := range n {
			other := impl.MovesFrom(h, w, kind, turned(w, h, cell))
			for to := range n {
				if moves[cell][to] != moves[to][cell] {
					t.Errorf("board %d, %d: %s from %d to %d: %d moves, back %d", w, h, kind, cell, to, moves[cell][to], moves[to][cell])
				}
				if other[turned(w, h, to)] != moves[cell][to] {
					t.Errorf("board %d, %d: %s from %d to %d: %d moves, turned %d", w, h, kind, cell, to, moves[cell][to], other[turned(w, h, to)])
				}
				if !oneMore(moves[cell], to, impl.ReachOf(w, h, kind, to, nil)) {
					t.Errorf("board %d, %d: %s from %d: %v is not one more at %d", w, h, kind, cell, moves[cell], to)
				}
			}
		}
	})
}

// oneMore reports whether the moves to a cell are 0, or one more than the fewest of those to the cells near it, -1 if there are none.
func oneMore(moves []int, to int, near []int) bool {
	fewest := -1
	for _, cell := range near {
		if moves[cell] >= 0 && (fewest < 0 || moves[cell] < fewest) {
			fewest = moves[cell]
		}
	}
	if fewest < 0 {
		return moves[to] <= 0
	}
	return moves[to] == 0 || moves[to] == fewest+1
}

// P4.
func TestMovesAreCountedByRules(t *testing.T) {
	eachBoard(func(w, h int) {
		straight := w*(h-1) + h*(w-1)
		slanted := 2 * (w - 1) * (h - 1)
		for kind, want := range map[string]int{
			"rook":   w * h * (w + h - 2),
			"step":   2 * straight,
			"king":   2 * (straight + slanted),
			"knight": 4 * (max(w-1, 0)*max(h-2, 0) + max(w-2, 0)*max(h-1, 0)),
		} {
			if got := impl.AllMoves(w, h, kind); got != want {
				t.Errorf("AllMoves(%d, %d, %q) = %d, not %d", w, h, kind, got, want)
			}
		}
		if both := impl.AllMoves(w, h, "rook") + impl.AllMoves(w, h, "bishop"); impl.AllMoves(w, h, "queen") != both {
			t.Errorf("AllMoves(%d, %d, queen) = %d, not %d", w, h, impl.AllMoves(w, h, "queen"), both)
		}
		for _, kind := range kinds {
			sum := 0
			for cell := range w * h {
				sum += len(impl.ReachOf(w, h, kind, cell, nil))
			}
			if got := impl.AllMoves(w, h, kind); got != sum {
				t.Errorf("AllMoves(%d, %d, %q) = %d, not the sum %d", w, h, kind, got, sum)
			}
		}
	})
}

func TestMovesAreCountedOnSomeBoards(t *testing.T) {
	for _, c := range []struct {
		w, h int
		kind string
		want int
	}{
		{1, 1, "queen", 0}, {5, 1, "rook", 20}, {1, 5, "king", 8}, {5, 1, "step", 8}, {5, 1, "bishop", 0}, {5, 1, "knight", 0},
		{2, 2, "bishop", 4}, {5, 5, "bishop", 120}, {5, 5, "queen", 320}, {5, 5, "knight", 96}, {5, 5, "king", 144}, {4, 2, "knight", 8},
	} {
		if got := impl.AllMoves(c.w, c.h, c.kind); got != c.want {
			t.Errorf("AllMoves(%d, %d, %q) = %d, not %d", c.w, c.h, c.kind, got, c.want)
		}
	}
}

// P5.
func TestBishopsKeepTheirColour(t *testing.T) {
	eachBoard(func(w, h int) {
		for _, kind := range []string{"rook", "queen", "king", "step"} {
			if got := impl.PiecesOf(w, h, kind); got != 1 {
				t.Errorf("PiecesOf(%d, %d, %q) = %d, not 1", w, h, kind, got)
			}
		}
		want := 2
		if w == 1 || h == 1 {
			want = w * h // no bishop moves in one row or one column
		}
		if got := impl.PiecesOf(w, h, "bishop"); got != want {
			t.Errorf("PiecesOf(%d, %d, bishop) = %d, not %d", w, h, got, want)
		}
	})
}

func TestPartsOfKnights(t *testing.T) {
	for _, c := range []struct{ w, h, want int }{
		{1, 1, 1}, {5, 1, 5}, {1, 5, 5}, {2, 2, 4}, {3, 2, 4}, {2, 3, 4}, {4, 2, 4}, {5, 2, 4}, {3, 3, 2}, {4, 3, 1}, {3, 4, 1}, {5, 5, 1},
	} {
		if got := impl.PiecesOf(c.w, c.h, "knight"); got != c.want {
			t.Errorf("PiecesOf(%d, %d, knight) = %d, not %d", c.w, c.h, got, c.want)
		}
	}
}

// P69.
func TestOthersStopLines(t *testing.T) {
	eachKind(func(w, h int, kind string) {
		all := cellsOf(1<<(w*h) - 1)
		for cell := range w * h {
			free := impl.ReachOf(w, h, kind, cell, nil)
			stopped := impl.ReachOf(w, h, kind, cell, all)
			if len(free) < len(stopped) {
				t.Errorf("board %d, %d: %s goes from %d to %v, without others to %v", w, h, kind, cell, stopped, free)
			}
			if kind == "knight" {
				same(t, "ReachOf by knight past all", stopped, free)
				continue
			}
			king := impl.ReachOf(w, h, "king", cell, all)
			for _, to := range stopped {
				if !slices.Contains(king, to) {
					t.Errorf("board %d, %d: %s goes from %d past all to %d", w, h, kind, cell, to)
				}
			}
		}
	})
}

func TestInvalidBoardsAndKinds(t *testing.T) {
	for _, c := range []struct {
		w, h int
		kind string
	}{
		{3, 3, ""}, {3, 3, "pawn"}, {3, 3, "King"}, {3, 3, "rook "},
		{6, 1, "king"}, {1, 6, "king"}, {6, 6, "rook"}, {0, 3, "queen"}, {3, 0, "queen"}, {0, 0, "step"},
		{-1, 3, "bishop"}, {3, -1, "bishop"}, {-2, -2, "knight"},
		{math.MaxInt, math.MaxInt, "rook"}, {math.MinInt, math.MinInt, "rook"}, {math.MaxInt, 1, "step"}, {1 << 32, 1 << 32, "king"},
	} {
		if l := impl.ReachOf(c.w, c.h, c.kind, 0, nil); len(l) != 0 {
			t.Errorf("ReachOf(%d, %d, %q) = %v", c.w, c.h, c.kind, l)
		}
		if l := impl.MovesFrom(c.w, c.h, c.kind, 0); len(l) != 0 {
			t.Errorf("MovesFrom(%d, %d, %q) = %v", c.w, c.h, c.kind, l)
		}
		if n := impl.AllMoves(c.w, c.h, c.kind); n != -1 {
			t.Errorf("AllMoves(%d, %d, %q) = %d", c.w, c.h, c.kind, n)
		}
		if n := impl.PiecesOf(c.w, c.h, c.kind); n != -1 {
			t.Errorf("PiecesOf(%d, %d, %q) = %d", c.w, c.h, c.kind, n)
		}
	}
}

func TestInvalidCellsAndOthers(t *testing.T) {
	eachKind(func(w, h int, kind string) {
		for _, cell := range []int{-1, w * h, w*h + 1, math.MaxInt, math.MinInt} {
			if l := impl.ReachOf(w, h, kind, cell, nil); len(l) != 0 {
				t.Errorf("ReachOf(%d, %d, %q, %d) = %v", w, h, kind, cell, l)
			}
			if l := impl.MovesFrom(w, h, kind, cell); len(l) != 0 {
				t.Errorf("MovesFrom(%d, %d, %q, %d) = %v", w, h, kind, cell, l)
			}
			if l := impl.ReachOf(w, h, kind, 0, []int{cell}); len(l) != 0 {
				t.Errorf("ReachOf(%d, %d, %q, 0, [%d]) = %v", w, h, kind, cell, l)
			}
		}
		last := w*h - 1
		for _, others := range [][]int{{0, 0}, {last, last}, {1, 0}, {0, last, last}, {0, last + 1}, {-1, 0}, {0, -1}, {math.MaxInt, math.MinInt}} {
			if l := impl.ReachOf(w, h, kind, last, others); len(l) != 0 {
				t.Errorf("ReachOf(%d, %d, %q, %d, %v) = %v", w, h, kind, last, others, l)
			}
		}
	})
	for _, others := range [][]int{{1, 3, 2}, {3, 2}, {4, 4}, {0, 1, 2, 2}, {8, 9}, slices.Repeat([]int{5}, 30)} {
		same(t, fmt.Sprintf("ReachOf(3, 3, queen, 0, %v)", others), impl.ReachOf(3, 3, "queen", 0, others), nil)
	}
}

func TestMovesAreFreshAndArgumentsStay(t *testing.T) {
	kept := []int{1, 6, 7, 99}
	others := kept[:3]
	first := impl.ReachOf(5, 5, "queen", 12, others)
	want := slices.Clone(first)
	for i := range first[:cap(first)] {
		first[:cap(first)][i] = -7
	}
	same(t, "others", kept, []int{1, 6, 7, 99})
	same(t, "ReachOf behind a change of its result", impl.ReachOf(5, 5, "queen", 12, others), want)
	moves := impl.MovesFrom(4, 3, "knight", 0)
	want = slices.Clone(moves)
	for i := range moves[:cap(moves)] {
		moves[:cap(moves)][i] = -7
	}
	same(t, "MovesFrom behind a change of its result", impl.MovesFrom(4, 3, "knight", 0), want)
}
