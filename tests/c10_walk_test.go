package tests

import (
	"fmt"
	"math"
	"math/big"
	"testing"

	"loop.example/piecesonboards/impl"
)

// roams reports whether a piece of a kind comes from each cell of a small board to each one, and has a move:
// no knight does, as small boards are too narrow for it, and no bishop, as it keeps its colour.
func roams(w, h int, kind string) bool {
	return w*h > 1 && kind != "knight" && kind != "bishop"
}

// eachRoam calls f with each small board and each kind of piece that roams on it.
func eachRoam(f func(w, h int, kind string)) {
	eachSmall(func(w, h int, kind string) {
		if roams(w, h, kind) {
			f(w, h, kind)
		}
	})
}

// eachRoamed calls f with the boards and kinds of eachRoam, and each two of their cells.
func eachRoamed(f func(w, h int, kind string, i, k int)) {
	eachChase(func(w, h int, kind string, i, k int) {
		if roams(w, h, kind) {
			f(w, h, kind, i, k)
		}
	})
}

// nearOf returns the cells to which a piece goes, told by the cells alone.
func nearOf(w, h int, kind string, from int) []int {
	var cells []int
	for to := range w * h {
		if goes(w, kind, from, to, nil) {
			cells = append(cells, to)
		}
	}
	return cells
}

// walksBy returns how many walks of so many moves end at each cell, made one by one.
func walksBy(near [][]int, from, moves int) []int {
	counts := make([]int, len(near))
	if moves == 0 {
		counts[from]++
		return counts
	}
	for _, next := range near[from] {
		for to, count := range walksBy(near, next, moves-1) {
			counts[to] += count
		}
	}
	return counts
}

// ratOf returns a fraction, tested to be there in lowest terms.
func ratOf(t *testing.T, what string, got impl.Frac, ok bool) *big.Rat {
	t.Helper()
	if !ok || got.Down < 1 {
		t.Fatalf("%s = %v, %v", what, got, ok)
	}
	r := big.NewRat(int64(got.Up), int64(got.Down))
	if r.Num().Int64() != int64(got.Up) || r.Denom().Int64() != int64(got.Down) {
		t.Errorf("%s = %v, not %v", what, got, r)
	}
	return r
}

func shareOf(t *testing.T, w, h int, kind string, cell int) *big.Rat {
	t.Helper()
	got, ok := impl.ShareOf(w, h, kind, cell)
	return ratOf(t, fmt.Sprintf("ShareOf(%d, %d, %q, %d)", w, h, kind, cell), got, ok)
}

func hitTime(t *testing.T, w, h int, kind string, i, k int) *big.Rat {
	t.Helper()
	got, ok := impl.HitTime(w, h, kind, i, k)
	return ratOf(t, fmt.Sprintf("HitTime(%d, %d, %q, %d, %d)", w, h, kind, i, k), got, ok)
}

func backTime(t *testing.T, w, h int, kind string, cell int) *big.Rat {
	t.Helper()
	got, ok := impl.BackTime(w, h, kind, cell)
	return ratOf(t, fmt.Sprintf("BackTime(%d, %d, %q, %d)", w, h, kind, cell), got, ok)
}

// isRat tests that a fraction is another one.
func isRat(t *testing.T, what string, got, want *big.Rat) {
	t.Helper()
	if got.Cmp(want) != 0 {
		t.Errorf("%s = %v, not %v", what, got, want)
	}
}

// haveWalks tests that there are so many walks.
func haveWalks(t *testing.T, w, h int, kind string, i, k, moves, want int) {
	t.Helper()
	if got := impl.WalkCount(w, h, kind, i, k, moves); got != want {
		t.Errorf("WalkCount(%d, %d, %q, %d, %d, %d) = %d, not %d", w, h, kind, i, k, moves, got, want)
	}
}

// noFrac tests that a fraction is not there, and the zero value.
func noFrac(t *testing.T, what string, got impl.Frac, ok bool) {
	t.Helper()
	if ok || got != (impl.Frac{}) {
		t.Errorf("%s = %v, %v", what, got, ok)
	}
}

// notByChance tests that there is nothing of a piece that moves by chance from the one cell to the other one.
func notByChance(t *testing.T, w, h int, kind string, i, k int) {
	t.Helper()
	where := fmt.Sprintf("(%d, %d, %q, %d, %d)", w, h, kind, i, k)
	hit, hits := impl.HitTime(w, h, kind, i, k)
	noFrac(t, "HitTime"+where, hit, hits)
	hit, hits = impl.HitTime(w, h, kind, k, i)
	noFrac(t, "HitTime back"+where, hit, hits)
	share, shares := impl.ShareOf(w, h, kind, i)
	noFrac(t, "ShareOf"+where, share, shares)
	back, comesBack := impl.BackTime(w, h, kind, i)
	noFrac(t, "BackTime"+where, back, comesBack)
}

// noWalk tests that no walk from the one cell to the other one or back is counted, of any number of moves.
func noWalk(t *testing.T, w, h int, kind string, i, k int) {
	t.Helper()
	for _, moves := range []int{-1, 0, 1, 2, 8, 9} {
		haveWalks(t, w, h, kind, i, k, moves, -1)
		haveWalks(t, w, h, kind, k, i, moves, -1)
	}
}

func TestWalksOfSomeBoards(t *testing.T) {
	for _, c := range []struct {
		w, h              int
		kind              string
		i, k, moves, want int
	}{
		// One row and one column.
		{3, 1, "step", 0, 0, 2, 1}, {3, 1, "step", 1, 1, 2, 2}, {3, 1, "step", 0, 2, 2, 1}, {3, 1, "step", 0, 1, 8, 0}, {3, 1, "step", 0, 0, 8, 8}, {3, 1, "step", 1, 1, 8, 16}, {1, 3, "step", 1, 1, 8, 16},
		{5, 1, "step", 0, 4, 4, 1}, {5, 1, "step", 0, 4, 3, 0}, {5, 1, "step", 0, 4, 6, 4}, {2, 1, "king", 0, 1, 7, 1}, {2, 1, "king", 0, 1, 8, 0},
		{5, 1, "bishop", 0, 0, 0, 1}, {5, 1, "bishop", 0, 0, 1, 0}, {1, 4, "knight", 3, 3, 0, 1}, {1, 4, "knight", 3, 3, 8, 0}, {1, 4, "knight", 3, 2, 0, 0},
		// All cells beside all: of n cells a part of all walks, of one fewer than n to the power of the moves, comes to each.
		{4, 1, "rook", 2, 2, 3, 6}, {4, 1, "rook", 2, 3, 3, 7}, {2, 2, "king", 0, 0, 8, 1641}, {2, 2, "queen", 0, 3, 8, 1640}, {5, 1, "queen", 0, 0, 8, 13108}, {1, 5, "rook", 0, 4, 8, 13107},
		// Rings.
		{2, 2, "step", 0, 3, 8, 128}, {2, 2, "rook", 0, 1, 7, 64}, {3, 3, "knight", 0, 0, 8, 72}, {3, 3, "knight", 0, 3, 4, 0}, {3, 3, "knight", 0, 8, 4, 2}, {3, 3, "knight", 0, 8, 6, 12},
		// Boards in two pieces.
		{3, 3, "knight", 4, 4, 0, 1}, {3, 3, "knight", 4, 4, 2, 0}, {3, 3, "knight", 4, 0, 8, 0}, {3, 2, "knight", 0, 5, 7, 1}, {3, 2, "knight", 0, 5, 8, 0}, {3, 2, "knight", 1, 1, 1, 0},
		{2, 2, "bishop", 0, 3, 5, 1}, {2, 2, "bishop", 0, 0, 8, 1}, {2, 2, "bishop", 0, 1, 8, 0}, {3, 3, "bishop", 1, 7, 2, 2}, {3, 3, "bishop", 1, 4, 2, 0}, {3, 3, "bishop", 0, 8, 2, 1},
		// Boards of three columns and three rows.
		{3, 3, "rook", 0, 4, 2, 2}, {3, 3, "rook", 0, 1, 2, 1}, {3, 3, "rook", 0, 0, 2, 4}, {3, 3, "step", 4, 4, 2, 4}, {3, 3, "step", 0, 8, 4, 6}, {3, 3, "king", 4, 4, 2, 8},
	} {
		haveWalks(t, c.w, c.h, c.kind, c.i, c.k, c.moves, c.want)
	}
}

func TestTimesOfSomeBoards(t *testing.T) {
	for _, c := range []struct {
		w, h     int
		kind     string
		i, k     int
		up, down int64
	}{
		// The same cell.
		{3, 1, "step", 1, 1, 0, 1}, {2, 2, "king", 3, 3, 0, 1}, {3, 3, "queen", 4, 4, 0, 1},
		// One row: from the end that is left behind, the square of the cells that are passed.
		{5, 1, "step", 0, 1, 1, 1}, {5, 1, "step", 0, 3, 9, 1}, {5, 1, "step", 1, 3, 8, 1}, {5, 1, "king", 3, 4, 7, 1}, {1, 5, "king", 4, 1, 9, 1}, {2, 1, "step", 0, 1, 1, 1},
		// All cells beside all, and a ring.
		{5, 1, "rook", 0, 4, 4, 1}, {1, 4, "queen", 2, 1, 3, 1}, {2, 2, "queen", 0, 3, 3, 1}, {2, 2, "step", 0, 1, 3, 1}, {2, 2, "rook", 1, 2, 4, 1},
		// To the cell in the middle.
		{3, 3, "step", 0, 4, 6, 1}, {3, 3, "step", 1, 4, 5, 1}, {3, 3, "king", 0, 4, 19, 5}, {3, 3, "king", 5, 4, 21, 5}, {3, 3, "queen", 0, 4, 6, 1}, {3, 3, "queen", 7, 4, 6, 1},
		// There and back takes twice as many moves as there are ways between cells, times what the ways are against a current between both.
		{3, 2, "step", 0, 3, 77, 15}, {3, 2, "step", 3, 0, 77, 15}, {3, 2, "step", 1, 4, 21, 5}, {3, 2, "step", 0, 1, 17, 5}, {3, 2, "step", 1, 0, 103, 15}, {3, 2, "rook", 0, 1, 24, 5}, {3, 2, "rook", 0, 3, 27, 5},
	} {
		isRat(t, fmt.Sprintf("HitTime(%d, %d, %q, %d, %d)", c.w, c.h, c.kind, c.i, c.k), hitTime(t, c.w, c.h, c.kind, c.i, c.k), big.NewRat(c.up, c.down))
	}
	for _, c := range []struct {
		w, h     int
		kind     string
		cell     int
		up, down int64
	}{
		{2, 1, "step", 0, 1, 2}, {5, 1, "step", 0, 1, 8}, {5, 1, "king", 3, 1, 4}, {1, 5, "queen", 2, 1, 5}, {3, 2, "step", 4, 3, 14}, {3, 2, "step", 5, 1, 7},
		{3, 3, "step", 4, 1, 6}, {3, 3, "king", 0, 3, 40}, {3, 3, "king", 1, 1, 8}, {3, 3, "king", 4, 1, 5}, {3, 3, "rook", 4, 1, 9}, {3, 3, "queen", 4, 1, 7}, {3, 3, "queen", 8, 3, 28},
	} {
		what := fmt.Sprintf("(%d, %d, %q, %d)", c.w, c.h, c.kind, c.cell)
		isRat(t, "ShareOf"+what, shareOf(t, c.w, c.h, c.kind, c.cell), big.NewRat(c.up, c.down))
		isRat(t, "BackTime"+what, backTime(t, c.w, c.h, c.kind, c.cell), big.NewRat(c.down, c.up))
	}
}

// P46, and the walks of no move.
func TestWalksGoBack(t *testing.T) {
	eachChase(func(w, h int, kind string, i, k int) {
		none := 0
		if i == k {
			none = 1
		}
		haveWalks(t, w, h, kind, i, k, 0, none)
		for moves := range impl.MaxWalk + 1 {
			count := impl.WalkCount(w, h, kind, i, k, moves)
			haveWalks(t, w, h, kind, k, i, moves, count)
			if moves == 0 {
				continue
			}
			sum := 0
			// From a cell a piece goes to where it comes back from.
			for _, cell := range impl.ReachOf(w, h, kind, k, nil) {
				sum += impl.WalkCount(w, h, kind, i, cell, moves-1)
			}
			if count != sum {
				t.Errorf("WalkCount(%d, %d, %q, %d, %d, %d) = %d, not %d by one move fewer", w, h, kind, i, k, moves, count, sum)
			}
		}
	})
}

// P46, with walks made one by one.
func TestWalksAreToldByAllMoves(t *testing.T) {
	eachSmall(func(w, h int, kind string) {
		var near [][]int
		for cell := range w * h {
			near = append(near, nearOf(w, h, kind, cell))
		}
		for i := range near {
			for moves := range 5 {
				for k, want := range walksBy(near, i, moves) {
					haveWalks(t, w, h, kind, i, k, moves, want)
				}
			}
		}
	})
}

// P63.
func TestWalksBeginAsMoves(t *testing.T) {
	eachSmall(func(w, h int, kind string) {
		for i := range w * h {
			for k, fewest := range impl.MovesFrom(w, h, kind, i) {
				least := -1
				for moves := impl.MaxWalk; moves >= 0; moves-- {
					if impl.WalkCount(w, h, kind, i, k, moves) != 0 {
						least = moves
					}
				}
				if least != fewest {
					t.Errorf("WalkCount(%d, %d, %q, %d, %d) begins with %d moves, MovesFrom has %d", w, h, kind, i, k, least, fewest)
				}
			}
		}
	})
}

// P47, and the shares by their moves.
func TestAllSharesAreOne(t *testing.T) {
	eachRoam(func(w, h int, kind string) {
		sum, all := new(big.Rat), int64(impl.AllMoves(w, h, kind))
		for cell := range w * h {
			share := shareOf(t, w, h, kind, cell)
			what := fmt.Sprintf("ShareOf(%d, %d, %q, %d)", w, h, kind, cell)
			isRat(t, what, share, big.NewRat(int64(len(nearOf(w, h, kind, cell))), all))
			if kind == "rook" {
				isRat(t, what, share, big.NewRat(1, int64(w*h)))
			}
			sum.Add(sum, share)
		}
		isRat(t, fmt.Sprintf("all ShareOf(%d, %d, %q)", w, h, kind), sum, big.NewRat(1, 1))
	})
}

// A share is in the long run if one move more does not change it.
func TestSharesStayBehindAMove(t *testing.T) {
	eachRoam(func(w, h int, kind string) {
		for cell := range w * h {
			comes := new(big.Rat)
			for _, from := range nearOf(w, h, kind, cell) {
				part := big.NewRat(1, int64(len(nearOf(w, h, kind, from))))
				comes.Add(comes, part.Mul(part, shareOf(t, w, h, kind, from)))
			}
			isRat(t, fmt.Sprintf("ShareOf(%d, %d, %q, %d)", w, h, kind, cell), shareOf(t, w, h, kind, cell), comes)
		}
	})
}

// meanTo returns one more than the mean HitTime to a cell from all cells to which a piece goes from another one, or the same.
func meanTo(t *testing.T, w, h int, kind string, from, to int) *big.Rat {
	t.Helper()
	sum, near := new(big.Rat), impl.ReachOf(w, h, kind, from, nil)
	for _, cell := range near {
		sum.Add(sum, hitTime(t, w, h, kind, cell, to))
	}
	mean := sum.Mul(sum, big.NewRat(1, int64(len(near))))
	return mean.Add(mean, big.NewRat(1, 1))
}

// P48. No other times are so on a board on which a piece comes from each cell to each one.
func TestHittingTakesOneMoveAndTheRest(t *testing.T) {
	eachRoamed(func(w, h int, kind string, i, k int) {
		want := new(big.Rat)
		if i != k {
			want = meanTo(t, w, h, kind, i, k)
		}
		isRat(t, fmt.Sprintf("HitTime(%d, %d, %q, %d, %d)", w, h, kind, i, k), hitTime(t, w, h, kind, i, k), want)
	})
}

// P49, and the mean of the times of all cells to which a piece goes.
func TestBackIsOneByTheShare(t *testing.T) {
	eachRoam(func(w, h int, kind string) {
		for cell := range w * h {
			back := backTime(t, w, h, kind, cell)
			what := fmt.Sprintf("BackTime(%d, %d, %q, %d)", w, h, kind, cell)
			isRat(t, what, back, meanTo(t, w, h, kind, cell, cell))
			isRat(t, what+" by the share", new(big.Rat).Mul(back, shareOf(t, w, h, kind, cell)), big.NewRat(1, 1))
		}
	})
}

// P68.
func TestRowsAreHitBySquares(t *testing.T) {
	for n := 2; n <= impl.MaxSide; n++ {
		want := big.NewRat(int64((n-1)*(n-1)), 1)
		for _, side := range [][2]int{{n, 1}, {1, n}} {
			isRat(t, fmt.Sprintf("HitTime of %v by step", side), hitTime(t, side[0], side[1], "step", 0, n-1), want)
			isRat(t, fmt.Sprintf("HitTime back of %v by step", side), hitTime(t, side[0], side[1], "step", n-1, 0), want)
		}
	}
}

// P72.
func TestBothWaysAreAsLongByTurnedBoards(t *testing.T) {
	eachRoamed(func(w, h int, kind string, i, k int) {
		other := hitTime(t, h, w, kind, turned(w, h, i), turned(w, h, k))
		isRat(t, fmt.Sprintf("HitTime(%d, %d, %q, %d, %d)", w, h, kind, i, k), hitTime(t, w, h, kind, i, k), other)
	})
}

func TestWalksMayBeTurned(t *testing.T) {
	eachChase(func(w, h int, kind string, i, k int) {
		for moves := range impl.MaxWalk + 1 {
			haveWalks(t, h, w, kind, turned(w, h, i), turned(w, h, k), moves, impl.WalkCount(w, h, kind, i, k, moves))
		}
	})
	eachRoam(func(w, h int, kind string) {
		for cell := range w * h {
			what, other := fmt.Sprintf("(%d, %d, %q, %d)", w, h, kind, cell), turned(w, h, cell)
			isRat(t, "ShareOf"+what, shareOf(t, w, h, kind, cell), shareOf(t, h, w, kind, other))
			isRat(t, "BackTime"+what, backTime(t, w, h, kind, cell), backTime(t, h, w, kind, other))
		}
	})
}

func TestWalksOfOneCell(t *testing.T) {
	for _, kind := range kinds {
		haveWalks(t, 1, 1, kind, 0, 0, 0, 1)
		for moves := 1; moves <= impl.MaxWalk; moves++ {
			haveWalks(t, 1, 1, kind, 0, 0, moves, 0)
		}
		notByChance(t, 1, 1, kind, 0, 0)
	}
}

// Where a piece does not come from each cell to each one there is nothing by chance, also of the same cell and of cells to which it comes.
func TestBoardsInTwoPiecesHaveNoChance(t *testing.T) {
	eachChase(func(w, h int, kind string, i, k int) {
		if !roams(w, h, kind) {
			notByChance(t, w, h, kind, i, k)
		}
	})
	eachSmall(func(w, h int, kind string) {
		if roams(w, h, kind) != (impl.PiecesOf(w, h, kind) == 1 && impl.AllMoves(w, h, kind) > 0) {
			t.Errorf("roams(%d, %d, %q) is %v", w, h, kind, roams(w, h, kind))
		}
	})
}

func TestInvalidNumbersOfMoves(t *testing.T) {
	if impl.MaxWalk != 8 {
		t.Errorf("MaxWalk = %d", impl.MaxWalk)
	}
	eachChase(func(w, h int, kind string, i, k int) {
		for _, moves := range []int{-1, -2, -8, math.MinInt, 9, 10, 16, 64, 1 << 32, math.MaxInt} {
			haveWalks(t, w, h, kind, i, k, moves, -1)
		}
	})
}

func TestInvalidBoardsOfWalks(t *testing.T) {
	for _, c := range []struct {
		w, h int
		kind string
	}{
		// A text that is no kind.
		{3, 3, ""}, {3, 3, "pawn"}, {3, 3, "King"}, {1, 1, "steps"}, {2, 2, "rook "}, {1, 1, " queen"},
		// A side of 0, a negative one, and one above the limit, with few cells.
		{0, 3, "king"}, {3, 0, "king"}, {0, 0, "rook"}, {-1, 3, "step"}, {3, -1, "step"}, {-1, -1, "queen"}, {-3, -3, "king"},
		{6, 1, "queen"}, {1, 6, "step"}, {9, 1, "rook"}, {1, 9, "king"}, {6, 0, "knight"},
		// Too many cells.
		{5, 2, "king"}, {2, 5, "king"}, {4, 3, "king"}, {3, 4, "knight"}, {5, 5, "rook"}, {4, 4, "step"}, {5, 3, "queen"},
		// Sides of which the cells are few as the product wraps around.
		{math.MaxInt, math.MaxInt, "king"}, {math.MinInt, math.MinInt, "king"}, {1 << 32, 1 << 32, "rook"}, {math.MinInt, 2, "rook"}, {math.MaxInt, 1, "step"},
	} {
		for _, cells := range [][2]int{{0, 0}, {0, 1}, {2, 2}, {-1, -1}, {25, 25}} {
			noWalk(t, c.w, c.h, c.kind, cells[0], cells[1])
			notByChance(t, c.w, c.h, c.kind, cells[0], cells[1])
		}
	}
}

func TestInvalidCellsOfWalks(t *testing.T) {
	eachSmall(func(w, h int, kind string) {
		n := w * h
		for _, cell := range []int{-1, -n, n, n + 1, 63, 64, 1 << 32, math.MaxInt, math.MinInt} {
			noWalk(t, w, h, kind, cell, cell)
			notByChance(t, w, h, kind, cell, cell)
			for valid := range n {
				noWalk(t, w, h, kind, cell, valid)
				notByChance(t, w, h, kind, cell, valid)
			}
		}
	})
}
