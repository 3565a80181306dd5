package tests

import (
	"fmt"
	"math"
	"math/bits"
	"slices"
	"testing"

	"loop.example/piecesonboards/impl"
)

// setOf returns the seats as a set of cells, a sum of 2 to each.
func setOf(seats []int) int {
	set := 0
	for row, cols := range seats {
		set |= cols << (row * len(seats))
	}
	return set
}

// seatsOf returns the seats of n rows whose allowed cells are a set, a sum of 2 to each.
func seatsOf(n int, set int) []int {
	seats := make([]int, n)
	for row := range seats {
		seats[row] = set >> (row * n) & (1<<n - 1)
	}
	return seats
}

// eachSeats calls f with seats of each number of rows: all of those of up to three rows, and many of more.
func eachSeats(f func(seats []int)) {
	for n := 1; n <= 3; n++ {
		for set := range 1 << (n * n) {
			f(seatsOf(n, set))
		}
	}
	for n := 4; n <= impl.MaxSide; n++ {
		all := 1<<(n*n) - 1
		for _, set := range someSets(n * n) {
			f(seatsOf(n, set))
			f(seatsOf(n, all&^set))
		}
		mixed := uint64(n)
		for range 200 {
			mixed = mixed*6364136223846793005 + 1442695040888963407
			f(seatsOf(n, int(mixed>>33)&all))
		}
	}
}

// rookSets returns all sets of cells, no two in one row or in one column, of a board of n rows and columns: parts of its full sets.
func rookSets(n int) []int {
	met := map[int]bool{}
	var place func(row, taken, set int)
	place = func(row, taken, set int) {
		if row == n {
			met[0] = true
			for part := set; part > 0; part = (part - 1) & set {
				met[part] = true
			}
			return
		}
		for col := range n {
			if taken>>col&1 == 0 {
				place(row+1, taken|1<<col, set|1<<(row*n+col))
			}
		}
	}
	place(0, 0, 0)
	sets := make([]int, 0, len(met))
	for set := range met {
		sets = append(sets, set)
	}
	return sets
}

// allRookSets returns for each number of rows up to MaxSide its rookSets.
func allRookSets() [][]int {
	sets := make([][]int, impl.MaxSide+1)
	for n := range sets {
		sets[n] = rookSets(n)
	}
	return sets
}

// allowedCounts returns by number how many of the sets have allowed cells alone.
func allowedCounts(sets []int, seats []int) []int {
	counts := make([]int, len(seats)+1)
	allowed := setOf(seats)
	for _, set := range sets {
		if set&^allowed == 0 {
			counts[bits.OnesCount(uint(set))]++
		}
	}
	return counts
}

// otherWayRound returns a list from its end on.
func otherWayRound(list []int) []int {
	other := slices.Clone(list)
	slices.Reverse(other)
	return other
}

// invalidSeats are lists that are no seats.
var invalidSeats = [][]int{
	nil, {}, {0, 0, 0, 0, 0, 0}, {1, 2, 4, 8, 16, 32}, slices.Repeat([]int{1}, 100),
	{2}, {3}, {4, 0}, {0, 4}, {8, 0, 0}, {7, 7, 8}, {16, 0, 0, 0}, {0, 0, 0, 16}, {32, 0, 0, 0, 0}, {31, 31, 31, 31, 32},
	{-1}, {0, -1}, {-1, 3}, {1, -2, 1}, {0, 0, 0, 0, -31},
	{math.MaxInt}, {math.MinInt}, {0, math.MaxInt}, {math.MinInt, 0}, {1 << 32, 0, 0}, {0, 0, 1 << 62, 0, 0},
}

func TestSeatsAreRowsOfColumns(t *testing.T) {
	eachSeats(func(seats []int) {
		if !impl.ValidSeats(seats) {
			t.Errorf("%v are no seats", seats)
		}
	})
	for n := 1; n <= impl.MaxSide; n++ {
		for row := range n {
			for _, c := range []struct {
				cols int
				want bool
			}{{0, true}, {1, true}, {1<<n - 1, true}, {1 << n, false}, {1<<n + 1, false}, {-1, false}} {
				seats := make([]int, n)
				seats[row] = c.cols
				if impl.ValidSeats(seats) != c.want {
					t.Errorf("ValidSeats(%v) = %v", seats, !c.want)
				}
			}
		}
	}
}

// P6.
func TestSeatsMayBeTurned(t *testing.T) {
	eachSeats(func(seats []int) {
		if !impl.ValidSeats(otherWayRound(seats)) {
			t.Errorf("%v are no seats the other way round", seats)
		}
	})
	for _, seats := range invalidSeats {
		if impl.ValidSeats(seats) || impl.ValidSeats(otherWayRound(seats)) {
			t.Errorf("%v are seats", seats)
		}
	}
}

func TestRookCountsOfSomeSeats(t *testing.T) {
	for _, c := range []struct {
		seats  []int
		counts []int
	}{
		// No cell.
		{[]int{0}, []int{1, 0}}, {[]int{0, 0}, []int{1, 0, 0}}, {[]int{0, 0, 0, 0, 0}, []int{1, 0, 0, 0, 0, 0}},
		// All cells.
		{[]int{1}, []int{1, 1}}, {[]int{3, 3}, []int{1, 4, 2}}, {[]int{7, 7, 7}, []int{1, 9, 18, 6}},
		{[]int{15, 15, 15, 15}, []int{1, 16, 72, 96, 24}}, {[]int{31, 31, 31, 31, 31}, []int{1, 25, 200, 600, 600, 120}},
		// One row, one column, one slant.
		{[]int{0, 0, 31, 0, 0}, []int{1, 5, 0, 0, 0, 0}}, {[]int{4, 4, 4, 4, 4}, []int{1, 5, 0, 0, 0, 0}},
		{[]int{1, 2, 4, 8, 16}, []int{1, 5, 10, 10, 5, 1}}, {[]int{16, 8, 4, 2, 1}, []int{1, 5, 10, 10, 5, 1}},
		// Stairs are counted by parts into sets.
		{[]int{0, 1, 3, 7, 15}, []int{1, 10, 25, 15, 1, 0}}, {[]int{1, 3, 7, 15}, []int{1, 10, 25, 15, 1}},
		// All but a slant, of which 44 full sets are left.
		{[]int{30, 29, 27, 23, 15}, []int{1, 20, 130, 320, 265, 44}},
		{[]int{2, 3}, []int{1, 3, 1}}, {[]int{6, 5, 3}, []int{1, 6, 9, 2}},
	} {
		same(t, fmt.Sprintf("RookCounts(%v)", c.seats), impl.RookCounts(c.seats), c.counts)
		same(t, fmt.Sprintf("RookByCell(%v)", c.seats), impl.RookByCell(c.seats), c.counts)
		if n := impl.FullByOthers(c.seats); n != c.counts[len(c.seats)] {
			t.Errorf("FullByOthers(%v) = %d", c.seats, n)
		}
	}
}

// P7.
func TestRooksByRowsAreRooksByCells(t *testing.T) {
	sets := allRookSets()
	eachSeats(func(seats []int) {
		want := allowedCounts(sets[len(seats)], seats)
		counts := impl.RookCounts(seats)
		same(t, fmt.Sprintf("RookCounts(%v)", seats), counts, want)
		same(t, fmt.Sprintf("RookByCell(%v)", seats), impl.RookByCell(seats), want)
		if cells := bits.OnesCount(uint(setOf(seats))); len(counts) < 2 || counts[0] != 1 || counts[1] != cells {
			t.Errorf("RookCounts(%v) = %v, not 1 and %d first", seats, counts, cells)
		}
	})
}

// P8.
func TestRowsComeInAnyOrder(t *testing.T) {
	eachSeats(func(seats []int) {
		counts := impl.RookByCell(seats)
		same(t, fmt.Sprintf("RookByCell(%v) the other way round", seats), impl.RookByCell(otherWayRound(seats)), counts)
		same(t, fmt.Sprintf("RookCounts(%v) the other way round", seats), impl.RookCounts(otherWayRound(seats)), counts)
	})
}

// P9.
func TestTwiceOthersAreTheSame(t *testing.T) {
	eachSeats(func(seats []int) {
		others := impl.OtherSeats(seats)
		if len(others) != len(seats) {
			t.Fatalf("OtherSeats(%v) = %v", seats, others)
		}
		for row := range seats {
			if seats[row]|others[row] != 1<<len(seats)-1 || seats[row]&others[row] != 0 {
				t.Errorf("OtherSeats(%v) = %v in row %d", seats, others, row)
			}
		}
		same(t, fmt.Sprintf("OtherSeats of OtherSeats(%v)", seats), impl.OtherSeats(others), seats)
	})
	same(t, "OtherSeats of one row with no cell", impl.OtherSeats([]int{0}), []int{1})
	same(t, "OtherSeats of one row with all cells", impl.OtherSeats([]int{1}), []int{0})
	same(t, "OtherSeats of no cell", impl.OtherSeats([]int{0, 0, 0, 0, 0}), []int{31, 31, 31, 31, 31})
	same(t, "OtherSeats of stairs", impl.OtherSeats([]int{1, 3, 7}), []int{6, 4, 0})
}

// P10.
func TestFullSetsAreToldByTheOthers(t *testing.T) {
	sets := allRookSets()
	eachSeats(func(seats []int) {
		n := len(seats)
		full := impl.FullByOthers(seats)
		if counts := impl.RookCounts(seats); full != counts[len(counts)-1] {
			t.Errorf("FullByOthers(%v) = %d, not the last one of %v", seats, full, counts)
		}
		if want := allowedCounts(sets[n], seats)[n]; full != want {
			t.Errorf("FullByOthers(%v) = %d, not %d", seats, full, want)
		}
	})
}

// P74.
func TestMoreSeatsHaveNoFewerRooks(t *testing.T) {
	eachSeats(func(seats []int) {
		counts := impl.RookCounts(seats)
		all := impl.RookCounts(slices.Repeat([]int{1<<len(seats) - 1}, len(seats)))
		if len(all) != len(counts) {
			t.Fatalf("RookCounts(%v) = %v, of all cells %v", seats, counts, all)
		}
		for k, count := range counts {
			if all[k] < count {
				t.Errorf("RookCounts(%v) = %v, of all cells %v", seats, counts, all)
			}
		}
	})
}

func TestInvalidSeats(t *testing.T) {
	for _, seats := range invalidSeats {
		if impl.ValidSeats(seats) {
			t.Errorf("%v are seats", seats)
		}
		same(t, fmt.Sprintf("RookCounts(%v)", seats), impl.RookCounts(seats), nil)
		same(t, fmt.Sprintf("RookByCell(%v)", seats), impl.RookByCell(seats), nil)
		same(t, fmt.Sprintf("OtherSeats(%v)", seats), impl.OtherSeats(seats), nil)
		if n := impl.FullByOthers(seats); n != -1 {
			t.Errorf("FullByOthers(%v) = %d", seats, n)
		}
	}
}

func TestRooksAreFreshAndSeatsStay(t *testing.T) {
	kept := []int{6, 5, 3, 99}
	seats := kept[:3]
	for name, f := range map[string]func([]int) []int{"RookCounts": impl.RookCounts, "RookByCell": impl.RookByCell, "OtherSeats": impl.OtherSeats} {
		first := f(seats)
		want := slices.Clone(first)
		for i := range first[:cap(first)] {
			first[:cap(first)][i] = -7
		}
		same(t, "seats behind "+name, kept, []int{6, 5, 3, 99})
		same(t, name+" behind a change of its result", f(seats), want)
	}
	if n := impl.FullByOthers(seats); n != 2 {
		t.Errorf("FullByOthers(%v) = %d", seats, n)
	}
	same(t, "seats behind FullByOthers", kept, []int{6, 5, 3, 99})
}
