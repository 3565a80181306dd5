package tests

import (
	"math"
	"slices"
	"testing"

	"loop.example/piecesonboards/impl"
)

// eachPaint calls f with each small board, each kind of piece and each number of colours.
func eachPaint(f func(w, h int, kind string, k int)) {
	eachSmall(func(w, h int, kind string) {
		for k := range impl.MaxColours + 1 {
			f(w, h, kind, k)
		}
	})
}

// pairsNear returns each two cells of a board, from the first one of which a piece goes to the other one.
func pairsNear(w, h int, kind string) [][2]int {
	var pairs [][2]int
	for from := range w * h {
		for _, to := range nearOf(w, h, kind, from) {
			pairs = append(pairs, [2]int{from, to})
		}
	}
	return pairs
}

// nextPaint makes the colours of cells those of the next paint of all, with k colours, and reports whether there is one.
func nextPaint(colours []int, k int) bool {
	for cell := range colours {
		colours[cell]++
		if colours[cell] < k {
			return true
		}
		colours[cell] = 0
	}
	return false
}

// paintsBy returns in how many ways a board is painted, of all paints with at least one colour.
func paintsBy(w, h int, kind string, k int) int {
	pairs, colours, count := pairsNear(w, h, kind), make([]int, w*h), 0
	for more := true; more; more = nextPaint(colours, k) {
		if !slices.ContainsFunc(pairs, func(pair [2]int) bool { return colours[pair[0]] == colours[pair[1]] }) {
			count++
		}
	}
	return count
}

// addParts adds to the counts in how many ways the cells that are left are parted, behind so many sets:
// each set is one of all loose ones that have the first cell that is left.
func addParts(loose []bool, left, sets int, counts []int) {
	if left == 0 {
		counts[sets]++
		return
	}
	for set := left; set != 0; set = (set - 1) & left {
		if set&left&-left != 0 && loose[set] {
			addParts(loose, left&^set, sets+1, counts)
		}
	}
}

// partsBy returns in how many ways a board is parted into so many loose sets, made set by set.
func partsBy(w, h int, kind string) []int {
	loose := make([]bool, 1<<(w*h))
	for set := range loose {
		loose[set] = isLoose(w, kind, set)
	}
	counts := make([]int, w*h+1)
	addParts(loose, 1<<(w*h)-1, 0, counts)
	return counts
}

// isFirstPaint tests that each number is the least one that no cell ahead to which a piece goes has.
func isFirstPaint(t *testing.T, w, h int, kind string, numbers []int) {
	t.Helper()
	for cell, number := range numbers {
		taken := map[int]bool{}
		for ahead := range cell {
			if goes(w, kind, cell, ahead, nil) {
				taken[numbers[ahead]] = true
			}
		}
		least := 0
		for taken[least] {
			least++
		}
		if number != least {
			t.Errorf("PaintFirst(%d, %d, %q) = %v, not %d in cell %d", w, h, kind, numbers, least, cell)
		}
	}
}

// havePaints tests that there are so many paints, by cells and by parts.
func havePaints(t *testing.T, w, h int, kind string, k, want int) {
	t.Helper()
	if got := impl.PaintCount(w, h, kind, k); got != want {
		t.Errorf("PaintCount(%d, %d, %q, %d) = %d, not %d", w, h, kind, k, got, want)
	}
	if got := impl.PaintByParts(w, h, kind, k); got != want {
		t.Errorf("PaintByParts(%d, %d, %q, %d) = %d, not %d", w, h, kind, k, got, want)
	}
}

// haveParts tests that there are such numbers of parts.
func haveParts(t *testing.T, w, h int, kind string, want ...int) {
	t.Helper()
	same(t, "LooseParts of "+kind, impl.LooseParts(w, h, kind), want)
}

// haveFewest tests that a board needs so many colours.
func haveFewest(t *testing.T, w, h int, kind string, want int) {
	t.Helper()
	if got := impl.FewestColours(w, h, kind); got != want {
		t.Errorf("FewestColours(%d, %d, %q) = %d, not %d", w, h, kind, got, want)
	}
}

// haveFirst tests that a board has such first colours.
func haveFirst(t *testing.T, w, h int, kind string, want ...int) {
	t.Helper()
	same(t, "PaintFirst of "+kind, impl.PaintFirst(w, h, kind), want)
}

// notPainted tests that a board has no paints and no parts, with any number of colours.
func notPainted(t *testing.T, w, h int, kind string) {
	t.Helper()
	for k := -1; k <= impl.MaxColours+1; k++ {
		havePaints(t, w, h, kind, k, -1)
	}
	haveParts(t, w, h, kind)
	haveFewest(t, w, h, kind, -1)
	haveFirst(t, w, h, kind)
}

func TestPaintsOfSomeBoards(t *testing.T) {
	for _, c := range []struct {
		w, h    int
		kind    string
		k, want int
	}{
		// Rows, of which each cell but the first one has one colour fewer.
		{5, 1, "step", 1, 0}, {5, 1, "step", 2, 2}, {5, 1, "king", 3, 48}, {1, 5, "step", 4, 324}, {2, 1, "queen", 4, 12},
		// All cells beside all.
		{4, 1, "rook", 4, 24}, {4, 1, "rook", 3, 0}, {5, 1, "queen", 4, 0}, {1, 3, "rook", 4, 24}, {2, 2, "queen", 4, 24},
		// Rings, one with a cell in the middle.
		{2, 2, "rook", 3, 18}, {2, 2, "step", 4, 84}, {3, 3, "knight", 2, 4}, {3, 3, "knight", 3, 774}, {3, 3, "knight", 4, 26256},
		// Pairs of cells.
		{3, 2, "knight", 3, 324}, {4, 2, "knight", 1, 0}, {2, 4, "knight", 4, 20736}, {2, 2, "bishop", 3, 36},
		// Kings need four colours, and have two of them in each row, or in each column.
		{3, 2, "king", 3, 0}, {3, 2, "king", 4, 48}, {2, 4, "king", 4, 96}, {3, 3, "king", 4, 72},
		// Boards of three columns and three rows.
		{3, 3, "step", 1, 0}, {3, 3, "step", 2, 2}, {3, 3, "step", 3, 246}, {3, 3, "step", 4, 9612},
		{3, 3, "bishop", 2, 0}, {3, 3, "bishop", 3, 216}, {3, 3, "bishop", 4, 12096}, {3, 3, "rook", 2, 0}, {3, 3, "queen", 4, 0},
	} {
		havePaints(t, c.w, c.h, c.kind, c.k, c.want)
	}
}

func TestPartsOfSomeBoards(t *testing.T) {
	haveParts(t, 5, 1, "step", 0, 0, 1, 7, 6, 1)
	haveParts(t, 1, 5, "rook", 0, 0, 0, 0, 0, 1)
	haveParts(t, 2, 1, "king", 0, 0, 1)
	haveParts(t, 2, 2, "step", 0, 0, 1, 2, 1)
	haveParts(t, 2, 2, "queen", 0, 0, 0, 0, 1)
	haveParts(t, 3, 2, "king", 0, 0, 0, 0, 2, 4, 1)
	haveParts(t, 2, 3, "rook", 0, 0, 0, 2, 9, 6, 1)
}

func TestFewestColoursOfSomeBoards(t *testing.T) {
	for _, c := range []struct {
		w, h int
		kind string
		want int
	}{
		{5, 1, "step", 2}, {1, 4, "king", 2}, {5, 1, "queen", 5}, {1, 5, "rook", 5}, {2, 2, "step", 2}, {4, 2, "king", 4}, {2, 4, "rook", 4},
		{2, 2, "bishop", 2}, {3, 2, "bishop", 2}, {3, 3, "bishop", 3}, {3, 2, "knight", 2}, {3, 3, "knight", 2}, {3, 2, "queen", 4}, {4, 2, "queen", 4}, {3, 3, "queen", 5},
	} {
		haveFewest(t, c.w, c.h, c.kind, c.want)
	}
}

func TestFirstPaintsOfSomeBoards(t *testing.T) {
	haveFirst(t, 5, 1, "king", 0, 1, 0, 1, 0)
	haveFirst(t, 1, 4, "queen", 0, 1, 2, 3)
	haveFirst(t, 3, 2, "king", 0, 1, 0, 2, 3, 2)
	haveFirst(t, 2, 2, "bishop", 0, 0, 1, 1)
	// More colours than are needed.
	haveFirst(t, 3, 3, "knight", 0, 0, 0, 1, 0, 1, 2, 1, 2)
	haveFirst(t, 3, 3, "rook", 0, 1, 2, 1, 0, 3, 2, 3, 0)
	haveFirst(t, 3, 3, "queen", 0, 1, 2, 2, 3, 0, 1, 4, 5)
}

// P50, and the paints one by one.
func TestPaintsByCellsArePaintsByParts(t *testing.T) {
	eachPaint(func(w, h int, kind string, k int) {
		got := impl.PaintCount(w, h, kind, k)
		if other := impl.PaintByParts(w, h, kind, k); other != got {
			t.Errorf("PaintCount(%d, %d, %q, %d) = %d, by parts %d", w, h, kind, k, got, other)
		}
		if k == 0 {
			return
		}
		if fewer := impl.PaintCount(w, h, kind, k-1); fewer > got {
			t.Errorf("PaintCount(%d, %d, %q, %d) = %d, less than %d with one colour fewer", w, h, kind, k, got, fewer)
		}
		havePaints(t, w, h, kind, k, paintsBy(w, h, kind, k))
	})
}

// P51, and the parts one by one.
func TestPartsAreAtMostCells(t *testing.T) {
	eachSmall(func(w, h int, kind string) {
		got, one := impl.LooseParts(w, h, kind), 0
		if impl.AllMoves(w, h, kind) == 0 {
			one = 1
		}
		if len(got) != w*h+1 || got[w*h] != 1 || got[0] != 0 || got[1] != one {
			t.Errorf("LooseParts(%d, %d, %q) = %v", w, h, kind, got)
		}
		haveParts(t, w, h, kind, partsBy(w, h, kind)...)
	})
}

// P52.
func TestNoColourPaintsNothing(t *testing.T) {
	eachSmall(func(w, h int, kind string) {
		havePaints(t, w, h, kind, 0, 0)
	})
	eachPaint(func(w, h int, kind string, k int) {
		sum := 0
		for sets, ways := range impl.LooseParts(w, h, kind) {
			// The colours are given to the sets one after the other.
			for set := range sets {
				ways *= max(k-set, 0)
			}
			sum += ways
		}
		havePaints(t, w, h, kind, k, sum)
	})
}

// P53, and the fewest sets of all parts.
func TestFewerColoursDoNotPaint(t *testing.T) {
	eachSmall(func(w, h int, kind string) {
		fewest := impl.FewestColours(w, h, kind)
		if want := slices.IndexFunc(partsBy(w, h, kind), func(ways int) bool { return ways > 0 }); fewest != want {
			t.Errorf("FewestColours(%d, %d, %q) = %d, not %d", w, h, kind, fewest, want)
		}
		for k := range impl.MaxColours + 1 {
			if count := impl.PaintCount(w, h, kind, k); (count > 0) != (k >= fewest) {
				t.Errorf("PaintCount(%d, %d, %q, %d) = %d, FewestColours %d", w, h, kind, k, count, fewest)
			}
		}
	})
}

// P54, and the least colours by the cells ahead.
func TestTheFirstColoursPaint(t *testing.T) {
	eachSmall(func(w, h int, kind string) {
		numbers := impl.PaintFirst(w, h, kind)
		if len(numbers) != w*h {
			t.Fatalf("PaintFirst(%d, %d, %q) = %v", w, h, kind, numbers)
		}
		for cell := range numbers {
			for _, other := range impl.ReachOf(w, h, kind, cell, nil) {
				if numbers[cell] == numbers[other] {
					t.Errorf("PaintFirst(%d, %d, %q) = %v, the same in cells %d and %d", w, h, kind, numbers, cell, other)
				}
			}
		}
		isFirstPaint(t, w, h, kind, numbers)
		slices.Sort(numbers)
		if colours, fewest := len(slices.Compact(numbers)), impl.FewestColours(w, h, kind); colours < fewest {
			t.Errorf("PaintFirst(%d, %d, %q) has %d colours, FewestColours is %d", w, h, kind, colours, fewest)
		}
	})
}

// P56.
func TestKnightsChangeColour(t *testing.T) {
	eachSmall(func(w, h int, kind string) {
		if fewest := impl.FewestColours(w, h, kind); (kind == "knight" || kind == "step") && (fewest < 1 || fewest > 2) {
			t.Errorf("FewestColours(%d, %d, %q) = %d", w, h, kind, fewest)
		}
		if kind != "step" {
			return
		}
		var want []int
		for cell := range w * h {
			want = append(want, (cell/w+cell%w)%2)
		}
		haveFirst(t, w, h, kind, want...)
	})
}

// P67.
func TestRooksPaintSquaresOfLetters(t *testing.T) {
	for i, want := range []int{1, 2, 12} {
		havePaints(t, i+1, i+1, "rook", i+1, want)
	}
}

func TestPaintsMayBeTurned(t *testing.T) {
	eachPaint(func(w, h int, kind string, k int) {
		havePaints(t, h, w, kind, k, impl.PaintCount(w, h, kind, k))
	})
	eachSmall(func(w, h int, kind string) {
		haveParts(t, h, w, kind, impl.LooseParts(w, h, kind)...)
		haveFewest(t, h, w, kind, impl.FewestColours(w, h, kind))
	})
}

func TestPaintsOfOneCell(t *testing.T) {
	for _, kind := range kinds {
		for k := range impl.MaxColours + 1 {
			havePaints(t, 1, 1, kind, k, k)
		}
		haveParts(t, 1, 1, kind, 0, 1)
		haveFewest(t, 1, 1, kind, 1)
		haveFirst(t, 1, 1, kind, 0)
	}
}

// Without moves each cell has any colour, and is in any set.
func TestPaintsOfBoardsWithoutMoves(t *testing.T) {
	boards := 0
	eachSmall(func(w, h int, kind string) {
		if impl.AllMoves(w, h, kind) > 0 {
			return
		}
		boards++
		for k := range impl.MaxColours + 1 {
			want := 1
			for range w * h {
				want *= k
			}
			havePaints(t, w, h, kind, k, want)
		}
		haveFewest(t, w, h, kind, 1)
		haveFirst(t, w, h, kind, make([]int, w*h)...)
	})
	// Each kind on one cell, knights and bishops on eight boards of one row or one column, and knights on that of two rows and two columns.
	if boards != 23 {
		t.Errorf("%d boards without moves", boards)
	}
	haveParts(t, 3, 1, "bishop", 0, 1, 3, 1)
	haveParts(t, 2, 2, "knight", 0, 1, 7, 6, 1)
	haveParts(t, 1, 5, "knight", 0, 1, 15, 25, 10, 1)
}

func TestInvalidNumbersOfColours(t *testing.T) {
	if impl.MaxColours != 4 {
		t.Errorf("MaxColours = %d", impl.MaxColours)
	}
	eachSmall(func(w, h int, kind string) {
		for _, k := range []int{-1, -2, -4, impl.MaxColours + 1, 9, 64, 1 << 32, math.MaxInt, math.MinInt} {
			havePaints(t, w, h, kind, k, -1)
		}
	})
}

func TestInvalidBoardsOfPaints(t *testing.T) {
	for _, c := range []struct {
		w, h int
		kind string
	}{
		// A text that is no kind.
		{3, 3, ""}, {3, 3, "pawn"}, {3, 3, "King"}, {1, 1, "steps"}, {2, 2, "rook "}, {1, 1, " queen"},
		// A side of 0, a negative one, and one above the limit, with few cells.
		{0, 3, "king"}, {3, 0, "king"}, {0, 0, "rook"}, {-1, 3, "step"}, {3, -1, "step"}, {-1, -1, "queen"}, {-3, -3, "bishop"},
		{6, 1, "queen"}, {1, 6, "step"}, {9, 1, "rook"}, {1, 9, "king"}, {6, 0, "knight"},
		// Too many cells.
		{5, 2, "king"}, {2, 5, "king"}, {4, 3, "king"}, {3, 4, "knight"}, {5, 5, "bishop"}, {4, 4, "step"}, {5, 3, "queen"},
		// Sides of which the cells are few as the product wraps around.
		{math.MaxInt, math.MaxInt, "king"}, {math.MinInt, math.MinInt, "king"}, {1 << 32, 1 << 32, "rook"}, {math.MinInt, 2, "rook"}, {math.MaxInt, 1, "step"},
	} {
		notPainted(t, c.w, c.h, c.kind)
	}
}

func TestPaintsAreFresh(t *testing.T) {
	for _, list := range [][]int{impl.LooseParts(2, 2, "bishop"), impl.PaintFirst(2, 2, "bishop")} {
		for i := range list[:cap(list)] {
			list[:cap(list)][i] = -7
		}
	}
	haveParts(t, 2, 2, "bishop", 0, 0, 2, 4, 1)
	haveFirst(t, 2, 2, "bishop", 0, 0, 1, 1)
	haveFewest(t, 2, 2, "bishop", 2)
	havePaints(t, 2, 2, "bishop", 2, 4)
}
