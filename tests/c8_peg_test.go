package tests

import (
	"fmt"
	"math"
	"math/bits"
	"slices"
	"testing"

	"loop.example/piecesonboards/impl"
)

// jumpCells returns all jumps for which a board has the cells, by their first and then by their last cell,
// told by the three cells alone: each two that are one after the other are beside each other, all in one row or one column.
func jumpCells(w, h int) [][]int {
	var jumps [][]int
	for first := range w * h {
		for last := range w * h {
			over := (first + last) / 2
			if goes(w, "rook", first, last, nil) && goes(w, "step", first, over, nil) && goes(w, "step", over, last, nil) {
				jumps = append(jumps, []int{first, over, last})
			}
		}
	}
	return jumps
}

// jumpsBy returns those of some jumps that pegs make.
func jumpsBy(jumps [][]int, pegs int) [][]int {
	cells := cellsOf(pegs)
	var made [][]int
	for _, j := range jumps {
		if slices.Contains(cells, j[0]) && slices.Contains(cells, j[1]) && !slices.Contains(cells, j[2]) {
			made = append(made, j)
		}
	}
	return made
}

// behindJump returns the pegs behind a jump of them.
func behindJump(pegs int, jump []int) int {
	return pegs - 1<<jump[0] - 1<<jump[1] + 1<<jump[2]
}

// nearPegs returns for each set of pegs of a board those that one jump makes of it.
func nearPegs(w, h int) [][]int {
	jumps := jumpCells(w, h)
	near := make([][]int, 1<<(w*h))
	for pegs := range near {
		for _, j := range jumpsBy(jumps, pegs) {
			near[pegs] = append(near[pegs], behindJump(pegs, j))
		}
	}
	return near
}

// comeBy returns the sets to which jumps lead from a set, it among them, ascending, by the sets that one jump makes of each.
func comeBy(near [][]int, pegs int) []int {
	met := map[int]bool{}
	var goOn func(pegs int)
	goOn = func(pegs int) {
		if !met[pegs] {
			met[pegs] = true
			for _, next := range near[pegs] {
				goOn(next)
			}
		}
	}
	goOn(pegs)
	var sets []int
	for set := range near {
		if met[set] {
			sets = append(sets, set)
		}
	}
	return sets
}

// classBy returns the class of pegs, told by sets of cells of the same rest.
func classBy(w, h, pegs int) []int {
	var sums, others [3]int
	for _, cell := range cellsOf(pegs) {
		row, col := cell/w, cell%w
		sums[(row+col)%3]++
		// Two columns more are as one fewer, by threes.
		others[(row+2*col)%3]++
	}
	return []int{(sums[0] + sums[1]) % 2, (sums[1] + sums[2]) % 2, (others[0] + others[1]) % 2, (others[1] + others[2]) % 2}
}

// eachPegs calls f with the columns and the rows of each board of few enough cells and each set of pegs on it.
func eachPegs(f func(w, h, pegs int)) {
	eachLit(func(w, h int) {
		for pegs := range 1 << (w * h) {
			f(w, h, pegs)
		}
	})
}

// sizeOf returns how many pegs a set has.
func sizeOf(pegs int) int {
	return bits.OnesCount(uint(pegs))
}

// haveJumps tests that the jumps of pegs are these.
func haveJumps(t *testing.T, w, h, pegs int, want [][]int) {
	t.Helper()
	if got := impl.JumpsOf(w, h, pegs); !slices.EqualFunc(got, want, slices.Equal) {
		t.Errorf("JumpsOf(%d, %d, %d) = %v, not %v", w, h, pegs, got, want)
	}
}

// haveLeft tests that the fewest pegs that are left of a set are so many.
func haveLeft(t *testing.T, w, h, pegs, want int) {
	t.Helper()
	if got := impl.FewestLeft(w, h, pegs); got != want {
		t.Errorf("FewestLeft(%d, %d, %d) = %d, not %d", w, h, pegs, got, want)
	}
}

// haveClass tests that the class of pegs is this one.
func haveClass(t *testing.T, w, h, pegs int, want []int) {
	t.Helper()
	same(t, fmt.Sprintf("ClassOf(%d, %d, %d)", w, h, pegs), impl.ClassOf(w, h, pegs), want)
}

// comeTo tests that jumps lead from a set of pegs to just these, it among them.
func comeTo(t *testing.T, w, h, pegs int, want []int) {
	t.Helper()
	same(t, fmt.Sprintf("ComesFrom(%d, %d, %d)", w, h, pegs), impl.ComesFrom(w, h, pegs), want)
}

// canCome tests whether jumps lead from a set of pegs to another one.
func canCome(t *testing.T, w, h, from, to int, want bool) {
	t.Helper()
	if got := impl.CanCome(w, h, from, to); got != want {
		t.Errorf("CanCome(%d, %d, %d, %d) is %v", w, h, from, to, got)
	}
}

func TestJumpsOfSomePegs(t *testing.T) {
	for _, c := range []struct {
		w, h, pegs int
		want       [][]int
	}{
		// No pegs, one peg, and all pegs.
		{1, 1, 0, nil}, {4, 3, 0, nil}, {1, 1, 1, nil}, {3, 3, 16, nil}, {3, 1, 7, nil}, {4, 3, 4095, nil},
		// One jump in a row and in a column, each way.
		{3, 1, 3, [][]int{{0, 1, 2}}}, {3, 1, 6, [][]int{{2, 1, 0}}}, {1, 3, 3, [][]int{{0, 1, 2}}}, {1, 3, 6, [][]int{{2, 1, 0}}}, {2, 3, 5, [][]int{{0, 2, 4}}}, {2, 3, 40, [][]int{{5, 3, 1}}},
		{5, 1, 3, [][]int{{0, 1, 2}}}, {5, 1, 24, [][]int{{4, 3, 2}}}, {3, 3, 384, [][]int{{8, 7, 6}}}, {3, 3, 288, [][]int{{8, 5, 2}}}, {3, 4, 18, [][]int{{1, 4, 7}}}, {3, 4, 1168, [][]int{{7, 4, 1}}},
		// No peg to go over, and no free cell behind it.
		{3, 1, 5, nil}, {3, 1, 1, nil}, {5, 1, 17, nil}, {5, 1, 9, nil}, {3, 3, 448, nil}, {3, 3, 495, nil}, {5, 1, 7, [][]int{{1, 2, 3}}},
		// Neither over the edge of a row into the next one, nor aslant.
		{3, 2, 6, [][]int{{2, 1, 0}}}, {3, 2, 12, nil}, {4, 2, 12, [][]int{{3, 2, 1}}}, {4, 2, 24, nil}, {5, 2, 48, nil}, {2, 2, 3, nil}, {2, 2, 5, nil}, {2, 3, 6, nil}, {3, 3, 17, nil}, {3, 3, 20, nil},
		// From one cell and over one, by the first and then by the last cell.
		{4, 1, 6, [][]int{{1, 2, 3}, {2, 1, 0}}}, {5, 1, 14, [][]int{{2, 1, 0}, {2, 3, 4}}}, {1, 5, 14, [][]int{{2, 1, 0}, {2, 3, 4}}}, {5, 1, 27, [][]int{{0, 1, 2}, {4, 3, 2}}},
		{3, 3, 11, [][]int{{0, 1, 2}, {0, 3, 6}}}, {3, 3, 38, [][]int{{2, 1, 0}, {2, 5, 8}}}, {3, 3, 200, [][]int{{6, 3, 0}, {6, 7, 8}}}, {3, 3, 416, [][]int{{8, 5, 2}, {8, 7, 6}}},
		{3, 3, 432, [][]int{{5, 4, 3}, {7, 4, 1}, {8, 5, 2}, {8, 7, 6}}}, {3, 3, 510, [][]int{{2, 1, 0}, {6, 3, 0}}}, {4, 3, 2046, [][]int{{2, 1, 0}, {3, 7, 11}, {8, 4, 0}, {9, 10, 11}}},
	} {
		haveJumps(t, c.w, c.h, c.pegs, c.want)
	}
}

func TestWhereSomePegsCome(t *testing.T) {
	for _, c := range []struct {
		w, h, pegs int
		want       []int
		fewest     int
	}{
		// No pegs, all pegs, and others without jumps.
		{1, 1, 0, []int{0}, 0}, {4, 3, 0, []int{0}, 0}, {1, 1, 1, []int{1}, 1}, {5, 1, 31, []int{31}, 5}, {2, 2, 15, []int{15}, 4}, {3, 3, 511, []int{511}, 9}, {4, 3, 4095, []int{4095}, 12}, {2, 2, 6, []int{6}, 2}, {3, 1, 5, []int{5}, 2},
		// One jump, and one jump or another one.
		{3, 1, 3, []int{3, 4}, 1}, {3, 1, 6, []int{1, 6}, 1}, {1, 3, 6, []int{1, 6}, 1}, {4, 1, 6, []int{1, 6, 8}, 1}, {5, 1, 14, []int{9, 14, 18}, 2}, {3, 3, 11, []int{11, 12, 66}, 2},
		// Two, one after the other, and such as come to the same.
		{4, 1, 11, []int{2, 11, 12}, 1}, {5, 1, 30, []int{5, 25, 30}, 2}, {5, 1, 27, []int{7, 9, 18, 27, 28}, 2}, {5, 2, 99, []int{99, 100, 131, 132}, 2},
	} {
		comeTo(t, c.w, c.h, c.pegs, c.want)
		haveLeft(t, c.w, c.h, c.pegs, c.fewest)
	}
}

func TestClassesOfSomePegs(t *testing.T) {
	for _, c := range []struct {
		w, h, pegs int
		want       []int
	}{
		// No pegs, and all.
		{1, 1, 0, []int{0, 0, 0, 0}}, {4, 3, 0, []int{0, 0, 0, 0}}, {1, 1, 1, []int{1, 0, 1, 0}}, {3, 3, 511, []int{0, 0, 0, 0}}, {5, 1, 31, []int{0, 1, 1, 1}},
		// One peg, with more columns than rows ahead of it, as many, and fewer.
		{2, 2, 1, []int{1, 0, 1, 0}}, {2, 2, 2, []int{1, 1, 0, 1}}, {2, 2, 4, []int{1, 1, 1, 1}}, {2, 2, 8, []int{0, 1, 1, 0}},
		{5, 1, 4, []int{0, 1, 1, 1}}, {5, 1, 8, []int{1, 0, 1, 0}}, {5, 1, 16, []int{1, 1, 0, 1}}, {1, 5, 4, []int{0, 1, 0, 1}}, {1, 5, 16, []int{1, 1, 1, 1}},
		// Behind one jump it is the same.
		{3, 1, 3, []int{0, 1, 1, 1}}, {3, 1, 4, []int{0, 1, 1, 1}}, {1, 3, 6, []int{1, 0, 1, 0}}, {1, 3, 1, []int{1, 0, 1, 0}},
	} {
		haveClass(t, c.w, c.h, c.pegs, c.want)
	}
}

func TestWhetherSomePegsCanCome(t *testing.T) {
	for _, c := range []struct {
		w, h, from, to int
		want           bool
	}{
		// A set comes from itself: no pegs, all pegs, and others.
		{1, 1, 0, 0, true}, {1, 1, 1, 1, true}, {4, 3, 0, 0, true}, {4, 3, 4095, 4095, true}, {3, 1, 5, 5, true}, {3, 1, 3, 3, true},
		{3, 1, 7, 0, false}, {3, 1, 0, 7, false}, {1, 1, 1, 0, false}, {1, 1, 0, 1, false},
		// One jump, but not back.
		{3, 1, 3, 4, true}, {3, 1, 4, 3, false}, {1, 3, 6, 1, true}, {1, 3, 1, 6, false}, {4, 1, 6, 1, true}, {4, 1, 6, 8, true}, {3, 1, 3, 6, false}, {3, 1, 3, 1, false},
		// Two jumps.
		{5, 1, 27, 18, true}, {5, 1, 27, 9, true}, {5, 1, 18, 27, false}, {4, 1, 11, 2, true}, {5, 2, 99, 132, true}, {5, 1, 27, 5, false},
		// One peg does not come to another cell of its class.
		{5, 1, 1, 8, false}, {1, 5, 16, 2, false},
	} {
		canCome(t, c.w, c.h, c.from, c.to, c.want)
	}
}

// P37.
func TestJumpsTakeOnePeg(t *testing.T) {
	eachLit(func(w, h int) {
		jumps := jumpCells(w, h)
		for pegs := range 1 << (w * h) {
			haveJumps(t, w, h, pegs, jumpsBy(jumps, pegs))
			class := impl.ClassOf(w, h, pegs)
			for _, j := range impl.JumpsOf(w, h, pegs) {
				if len(j) != 3 || pegs>>j[0]&1 != 1 || pegs>>j[1]&1 != 1 || pegs>>j[2]&1 != 0 {
					t.Fatalf("JumpsOf(%d, %d, %d) has %v", w, h, pegs, j)
				}
				haveClass(t, w, h, behindJump(pegs, j), class)
			}
		}
	})
}

// P38.
func TestWhatComesHasTheSameClass(t *testing.T) {
	eachLit(func(w, h int) {
		near := nearPegs(w, h)
		for pegs := range near {
			want := comeBy(near, pegs)
			comeTo(t, w, h, pegs, want)
			class := impl.ClassOf(w, h, pegs)
			for _, set := range impl.ComesFrom(w, h, pegs) {
				if sizeOf(set) > sizeOf(pegs) {
					t.Errorf("ComesFrom(%d, %d, %d) has more pegs in %d", w, h, pegs, set)
				}
				haveClass(t, w, h, set, class)
			}
			if !slices.Contains(want, pegs) {
				t.Errorf("ComesFrom(%d, %d, %d) is without it", w, h, pegs)
			}
		}
	})
}

// P39.
func TestFewestLeftAreOfWhatComes(t *testing.T) {
	eachPegs(func(w, h, pegs int) {
		fewest := w * h
		for _, set := range impl.ComesFrom(w, h, pegs) {
			fewest = min(fewest, sizeOf(set))
		}
		haveLeft(t, w, h, pegs, fewest)
		if none := len(impl.JumpsOf(w, h, pegs)) == 0; none != (impl.FewestLeft(w, h, pegs) == sizeOf(pegs)) {
			t.Errorf("FewestLeft(%d, %d, %d) = %d, its jumps are none: %v", w, h, pegs, impl.FewestLeft(w, h, pegs), none)
		}
	})
}

// P40.
func TestClassesAreAdded(t *testing.T) {
	eachPegs(func(w, h, pegs int) {
		haveClass(t, w, h, pegs, classBy(w, h, pegs))
	})
	eachLit(func(w, h int) {
		sets := someSets(w * h)
		for _, one := range sets {
			for _, other := range sets {
				sum := impl.ClassOf(w, h, one)
				for i, number := range impl.ClassOf(w, h, other) {
					sum[i] = (sum[i] + number) % 2
				}
				haveClass(t, w, h, one^other, sum)
			}
		}
	})
}

// P41.
func TestFreeCellsJumpBack(t *testing.T) {
	eachLit(func(w, h int) {
		all := 1<<(w*h) - 1
		for _, from := range someSets(w * h) {
			comes := impl.ComesFrom(w, h, from)
			for _, to := range slices.Concat(someSets(w*h), comes) {
				want := slices.Contains(comes, to)
				canCome(t, w, h, from, to, want)
				canCome(t, w, h, all-to, all-from, want)
			}
		}
	})
}

// P62.
func TestWhatComesLeavesNoFewer(t *testing.T) {
	eachPegs(func(w, h, pegs int) {
		fewest := impl.FewestLeft(w, h, pegs)
		for _, set := range impl.ComesFrom(w, h, pegs) {
			if got := impl.FewestLeft(w, h, set); got < fewest {
				t.Errorf("FewestLeft(%d, %d, %d) = %d, of %d, from which it comes, %d", w, h, set, got, pegs, fewest)
			}
		}
	})
}

// P71.
func TestFullBoardsHaveNoJumps(t *testing.T) {
	eachLit(func(w, h int) {
		n := w * h
		haveJumps(t, w, h, 1<<n-1, nil)
		haveJumps(t, w, h, 0, nil)
		haveLeft(t, w, h, 1<<n-1, n)
		haveLeft(t, w, h, 0, 0)
	})
}

func TestBoardsOfPegsMayBeTurned(t *testing.T) {
	eachLit(func(w, h int) {
		for _, pegs := range someSets(w * h) {
			var comes []int
			for _, set := range impl.ComesFrom(w, h, pegs) {
				comes = append(comes, turnedSet(w, h, set))
			}
			slices.Sort(comes)
			comeTo(t, h, w, turnedSet(w, h, pegs), comes)
		}
	})
}

// noPegs tests that there is nothing of a board and a set that is none of its pegs, alone and with one that may be one.
func noPegs(t *testing.T, w, h, set, other int) {
	t.Helper()
	haveJumps(t, w, h, set, nil)
	comeTo(t, w, h, set, nil)
	haveLeft(t, w, h, set, -1)
	haveClass(t, w, h, set, nil)
	canCome(t, w, h, set, set, false)
	canCome(t, w, h, set, other, false)
	canCome(t, w, h, other, set, false)
}

func TestInvalidBoardsOfPegs(t *testing.T) {
	for _, c := range []struct{ w, h int }{
		// A side of 0, a negative one, and one above the limit, with few cells.
		{0, 1}, {1, 0}, {0, 0}, {0, 4}, {4, 0}, {-1, 2}, {2, -1}, {-2, -2}, {-3, -4}, {-3, 1}, {6, 1}, {1, 6}, {6, 2}, {2, 6}, {12, 1}, {1, 12},
		// Too many cells.
		{5, 3}, {3, 5}, {4, 4}, {5, 4}, {4, 5}, {5, 5}, {6, 6},
		// Sides of which the cells are few as the product wraps around.
		{math.MaxInt, 2}, {2, math.MaxInt}, {math.MinInt, 2}, {math.MaxInt, math.MaxInt}, {math.MinInt, math.MinInt}, {1 << 32, 1 << 32}, {1<<32 + 3, 1},
	} {
		for _, pegs := range []int{0, 1, 3, 7, 4095, -1, 1 << 12} {
			noPegs(t, c.w, c.h, pegs, 0)
		}
	}
}

func TestInvalidPegs(t *testing.T) {
	eachLit(func(w, h int) {
		n := w * h
		for _, set := range []int{-1, -2, -1 << n, math.MinInt, math.MinInt + 3, 1 << n, 1<<n + 1, 1<<n + 3, 1<<(n+1) - 1, 1 << (n + 1), 1<<32 + 3, 1 << 62, math.MaxInt} {
			for _, other := range []int{0, 1, 1<<n - 1} {
				noPegs(t, w, h, set, other)
			}
		}
	})
}

func TestPegsAreFresh(t *testing.T) {
	jumps, comes, class := impl.JumpsOf(4, 3, 2046), impl.ComesFrom(5, 1, 27), impl.ClassOf(5, 1, 31)
	want := [][]int{{2, 1, 0}, {3, 7, 11}, {8, 4, 0}, {9, 10, 11}}
	for i, j := range jumps {
		// What is behind a jump in memory belongs to no other one.
		for k := range j[:cap(j)] {
			j[:cap(j)][k] = -7
		}
		if !slices.EqualFunc(jumps[i+1:], want[i+1:], slices.Equal) {
			t.Fatalf("JumpsOf behind a change of jump %d has %v", i, jumps[i+1:])
		}
	}
	for _, list := range [][]int{comes, class} {
		for i := range list[:cap(list)] {
			list[:cap(list)][i] = -7
		}
	}
	haveJumps(t, 4, 3, 2046, want)
	comeTo(t, 5, 1, 27, []int{7, 9, 18, 27, 28})
	haveClass(t, 5, 1, 31, []int{0, 1, 1, 1})
}
