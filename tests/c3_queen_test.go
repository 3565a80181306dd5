package tests

import (
	"fmt"
	"math"
	"slices"
	"testing"

	"loop.example/piecesonboards/impl"
)

// invalidQueens are numbers of rows of which there are no boards of queens.
var invalidQueens = []int{-1, 0, 7, -6, 8, 64, 1 << 32, math.MaxInt, math.MinInt}

// eachList calls f with each list of so many columns of a board of n columns, in order.
func eachList(n, length int, f func(list []int)) {
	list := make([]int, length)
	for {
		f(slices.Clone(list))
		at := length - 1
		for at >= 0 && list[at] == n-1 {
			list[at] = 0
			at--
		}
		if at < 0 {
			return
		}
		list[at]++
	}
}

// eachBeginning calls f with each board of queens and each list of columns of its first rows.
func eachBeginning(f func(n int, list []int)) {
	for n := 1; n <= impl.MaxQueens; n++ {
		for length := range n + 1 {
			eachList(n, length, func(list []int) { f(n, list) })
		}
	}
}

// eachOrder calls f with each list of 1 to MaxQueens numbers that has each number less than its length once.
func eachOrder(f func(list []int)) {
	for n := 1; n <= impl.MaxQueens; n++ {
		eachList(n, n, func(list []int) {
			if len(slices.Compact(slices.Sorted(slices.Values(list)))) == n {
				f(list)
			}
		})
	}
}

// apart reports by the cells of each two queens whether none of them goes to another one.
func apart(n int, list []int) bool {
	for row := range list {
		for above := range row {
			if goes(n, "queen", above*n+list[above], row*n+list[row], nil) {
				return false
			}
		}
	}
	return true
}

// queensApart returns all rows of n queens of which none goes to another one, in order, found among all rows of columns.
func queensApart(n int) [][]int {
	var all [][]int
	eachList(n, n, func(list []int) {
		if apart(n, list) {
			all = append(all, list)
		}
	})
	return all
}

// allQueensApart returns for each number up to MaxQueens its queensApart.
func allQueensApart() [][][]int {
	all := make([][][]int, impl.MaxQueens+1)
	for n := 1; n <= impl.MaxQueens; n++ {
		all[n] = queensApart(n)
	}
	return all
}

// imagesByCells returns what a list becomes when each of its cells is turned and mirrored in all eight ways.
func imagesByCells(list []int) [][]int {
	last := len(list) - 1
	var images [][]int
	for way := range 8 {
		image := make([]int, len(list))
		for row, col := range list {
			if way&1 == 1 {
				row = last - row
			}
			if way&2 == 2 {
				col = last - col
			}
			if way&4 == 4 {
				row, col = col, row
			}
			image[row] = col
		}
		images = append(images, image)
	}
	return images
}

// firstByCells returns the first one of imagesByCells.
func firstByCells(list []int) []int {
	return slices.MinFunc(imagesByCells(list), slices.Compare)
}

// contains reports whether a list is one of some.
func contains(lists [][]int, list []int) bool {
	return slices.ContainsFunc(lists, func(other []int) bool { return slices.Equal(other, list) })
}

func TestQueensOfSomeBoards(t *testing.T) {
	if impl.MaxQueens != 6 {
		t.Errorf("MaxQueens = %d", impl.MaxQueens)
	}
	for n, want := range map[int][][]int{
		1: {{0}},
		2: nil,
		3: nil,
		4: {{1, 3, 0, 2}, {2, 0, 3, 1}},
		5: {{0, 2, 4, 1, 3}, {0, 3, 1, 4, 2}, {1, 3, 0, 2, 4}, {1, 4, 2, 0, 3}, {2, 0, 3, 1, 4}, {2, 4, 1, 3, 0}, {3, 0, 2, 4, 1}, {3, 1, 4, 2, 0}, {4, 1, 3, 0, 2}, {4, 2, 0, 3, 1}},
		6: {{1, 3, 5, 0, 2, 4}, {2, 5, 1, 4, 0, 3}, {3, 0, 4, 1, 5, 2}, {4, 2, 0, 5, 3, 1}},
	} {
		if got := impl.QueensOf(n); !slices.EqualFunc(got, want, slices.Equal) {
			t.Errorf("QueensOf(%d) = %v, not %v", n, got, want)
		}
	}
}

// P11.
func TestQueensStandApart(t *testing.T) {
	for n := 1; n <= impl.MaxQueens; n++ {
		rows := impl.QueensOf(n)
		if want := queensApart(n); !slices.EqualFunc(rows, want, slices.Equal) {
			t.Errorf("QueensOf(%d) = %v, not %v", n, rows, want)
		}
		if len(rows) != impl.CountQueens(n) {
			t.Errorf("QueensOf(%d) are %d, not %d", n, len(rows), impl.CountQueens(n))
		}
		for i, row := range rows {
			if i > 0 && slices.Compare(rows[i-1], row) >= 0 {
				t.Errorf("QueensOf(%d) has %v behind %v", n, row, rows[i-1])
			}
			if !impl.CanStand(n, row) {
				t.Errorf("%v of QueensOf(%d) does not stand", row, n)
			}
			if !contains(rows, otherWayRound(row)) {
				t.Errorf("%v the other way round is none of QueensOf(%d)", row, n)
			}
		}
	}
}

// P12.
func TestQueensBySetsAreQueensByRows(t *testing.T) {
	for n, want := range []int{-1, 1, 0, 0, 2, 10, 4, -1} {
		if got := impl.CountQueens(n); got != want {
			t.Errorf("CountQueens(%d) = %d, not %d", n, got, want)
		}
	}
	for n := 1; n <= impl.MaxQueens; n++ {
		count := impl.CountQueens(n)
		if rows := impl.QueensOf(n); count != len(rows) {
			t.Errorf("CountQueens(%d) = %d, not %d", n, count, len(rows))
		}
		sum := 0
		for col := range n {
			sum += impl.EndsOf(n, []int{col})
		}
		if count != sum {
			t.Errorf("CountQueens(%d) = %d, not EndsOf all first columns, %d", n, count, sum)
		}
	}
}

func TestWhoCanStand(t *testing.T) {
	for _, c := range []struct {
		n    int
		list []int
		want bool
	}{
		// No queen and one queen stand always.
		{1, nil, true}, {6, nil, true}, {6, []int{}, true}, {1, []int{0}, true}, {2, []int{0}, true}, {2, []int{1}, true}, {6, []int{5}, true},
		// Two queens.
		{2, []int{0, 1}, false}, {2, []int{1, 0}, false}, {2, []int{0, 0}, false}, {3, []int{0, 2}, true}, {3, []int{2, 0}, true}, {6, []int{5, 0}, true}, {6, []int{3, 3}, false},
		// More queens, in the way of each other or not.
		{3, []int{0, 2, 1}, false}, {3, []int{0, 2, 0}, false}, {5, []int{0, 2, 4, 1, 3}, true}, {5, []int{0, 2, 4, 1, 4}, false}, {6, []int{0, 3, 5, 2}, true}, {6, []int{0, 3, 5, 2, 4}, false}, {6, []int{0, 2, 4, 1, 3, 5}, false}, {5, []int{0, 1, 2}, false}, {4, []int{0, 3, 3}, false},
	} {
		if got := impl.CanStand(c.n, c.list); got != c.want {
			t.Errorf("CanStand(%d, %v) = %v", c.n, c.list, got)
		}
	}
}

// P13.
func TestWhoStandsMayStandWithFewer(t *testing.T) {
	eachBeginning(func(n int, list []int) {
		stands := impl.CanStand(n, list)
		if stands != apart(n, list) {
			t.Errorf("CanStand(%d, %v) = %v", n, list, stands)
		}
		if !stands {
			return
		}
		if len(list) > 0 && !impl.CanStand(n, list[:len(list)-1]) {
			t.Errorf("%v of %d stands, and not without the last queen", list, n)
		}
		mirrored := slices.Clone(list)
		for row := range mirrored {
			mirrored[row] = n - 1 - mirrored[row]
		}
		if !impl.CanStand(n, mirrored) {
			t.Errorf("%v of %d stands, and not from the other side, %v", list, n, mirrored)
		}
	})
}

func TestEndsOfSomeLists(t *testing.T) {
	for _, c := range []struct {
		n    int
		list []int
		want int
	}{
		// No queen and one queen.
		{1, nil, 1}, {1, []int{0}, 1}, {2, nil, 0}, {2, []int{0}, 0}, {3, []int{1}, 0}, {4, []int{}, 2}, {4, []int{0}, 0}, {4, []int{1}, 1}, {5, []int{4}, 2}, {6, nil, 4}, {6, []int{0}, 0}, {6, []int{4}, 1},
		// Two queens.
		{2, []int{0, 1}, 0}, {2, []int{1, 1}, 0}, {4, []int{1, 3}, 1}, {4, []int{0, 2}, 0}, {5, []int{0, 2}, 1}, {5, []int{0, 4}, 0}, {6, []int{2, 5}, 1},
		// All queens, and queens that do not stand.
		{5, []int{0, 2, 4, 1, 3}, 1}, {6, []int{4, 2, 0, 5, 3, 1}, 1}, {6, []int{0, 1, 2, 3, 4, 5}, 0}, {6, []int{1, 3, 5, 0, 2, 3}, 0}, {4, []int{1, 3, 0, 0}, 0}, {6, []int{5, 5, 5}, 0},
	} {
		if got := impl.EndsOf(c.n, c.list); got != c.want {
			t.Errorf("EndsOf(%d, %v) = %d, not %d", c.n, c.list, got, c.want)
		}
	}
}

// P14.
func TestEndsAreThoseOfTheNextQueen(t *testing.T) {
	all := allQueensApart()
	eachBeginning(func(n int, list []int) {
		ends := impl.EndsOf(n, list)
		want := 0
		for _, row := range all[n] {
			if slices.Equal(row[:len(list)], list) {
				want++
			}
		}
		if ends != want {
			t.Errorf("EndsOf(%d, %v) = %d, not %d", n, list, ends, want)
		}
		stands := impl.CanStand(n, list)
		if !stands && ends != 0 {
			t.Errorf("EndsOf(%d, %v) = %d where queens do not stand", n, list, ends)
		}
		if len(list) == n {
			if stands && ends != 1 {
				t.Errorf("EndsOf(%d, %v) = %d of all queens", n, list, ends)
			}
			return
		}
		sum := 0
		for col := range n {
			sum += impl.EndsOf(n, append(slices.Clone(list), col))
		}
		if ends != sum {
			t.Errorf("EndsOf(%d, %v) = %d, not %d with all next columns", n, list, ends, sum)
		}
	})
}

func TestFirstImageOfSomeLists(t *testing.T) {
	for _, c := range []struct{ list, want []int }{
		{[]int{0}, []int{0}}, {[]int{0, 1}, []int{0, 1}}, {[]int{1, 0}, []int{0, 1}},
		{[]int{2, 1, 0}, []int{0, 1, 2}}, {[]int{1, 2, 0}, []int{0, 2, 1}}, {[]int{1, 0, 2}, []int{0, 2, 1}},
		{[]int{2, 0, 3, 1}, []int{1, 3, 0, 2}}, {[]int{3, 1, 2, 0}, []int{0, 2, 1, 3}},
		{[]int{4, 2, 0, 3, 1}, []int{0, 2, 4, 1, 3}}, {[]int{3, 0, 2, 4, 1}, []int{1, 4, 2, 0, 3}},
		{[]int{4, 2, 0, 5, 3, 1}, []int{1, 3, 5, 0, 2, 4}}, {[]int{5, 4, 3, 2, 1, 0}, []int{0, 1, 2, 3, 4, 5}},
		// Only the exchange of rows and columns comes first.
		{[]int{0, 3, 1, 2}, []int{0, 2, 3, 1}}, {[]int{0, 2, 3, 1}, []int{0, 2, 3, 1}},
	} {
		same(t, fmt.Sprintf("FirstImage(%v)", c.list), impl.FirstImage(c.list), c.want)
	}
}

// P15.
func TestFirstImagesAreFirst(t *testing.T) {
	eachOrder(func(list []int) {
		first := impl.FirstImage(list)
		same(t, fmt.Sprintf("FirstImage(%v)", list), first, firstByCells(list))
		same(t, fmt.Sprintf("FirstImage of FirstImage(%v)", list), impl.FirstImage(first), first)
		if slices.Compare(first, list) > 0 {
			t.Errorf("FirstImage(%v) = %v is behind it", list, first)
		}
		same(t, fmt.Sprintf("FirstImage(%v) the other way round", list), impl.FirstImage(otherWayRound(list)), first)
		for _, image := range imagesByCells(list) {
			same(t, fmt.Sprintf("FirstImage(%v), an image of %v", image, list), impl.FirstImage(image), first)
		}
	})
}

// P16.
func TestKindsAreOfAtMostEight(t *testing.T) {
	for n, want := range []int{-1, 1, 0, 0, 1, 2, 1, -1} {
		if got := impl.KindsOfQueens(n); got != want {
			t.Errorf("KindsOfQueens(%d) = %d, not %d", n, got, want)
		}
	}
	for n := 1; n <= impl.MaxQueens; n++ {
		kinds := impl.KindsOfQueens(n)
		own := 0
		different := map[string]bool{}
		for _, row := range impl.QueensOf(n) {
			first := impl.FirstImage(row)
			different[fmt.Sprint(first)] = true
			if slices.Equal(first, row) {
				own++
			}
		}
		if kinds != own || kinds != len(different) {
			t.Errorf("KindsOfQueens(%d) = %d, not %d, and %d different ones", n, kinds, own, len(different))
		}
		if 8*kinds < impl.CountQueens(n) {
			t.Errorf("8 times KindsOfQueens(%d) = %d is less than %d", n, kinds, impl.CountQueens(n))
		}
	}
}

// P60.
func TestQueensAreSomeRooks(t *testing.T) {
	for n := 1; n <= impl.MaxQueens; n++ {
		if got := impl.EndsOf(n, nil); got != impl.CountQueens(n) {
			t.Errorf("EndsOf(%d) no queen = %d, not %d", n, got, impl.CountQueens(n))
		}
	}
	for n := 1; n <= impl.MaxSide; n++ {
		counts := impl.RookCounts(slices.Repeat([]int{1<<n - 1}, n))
		if got := impl.CountQueens(n); got > counts[n] {
			t.Errorf("CountQueens(%d) = %d, more than %d rooks", n, got, counts[n])
		}
	}
}

func TestInvalidNumbersOfQueens(t *testing.T) {
	for _, n := range invalidQueens {
		if rows := impl.QueensOf(n); len(rows) != 0 {
			t.Errorf("QueensOf(%d) = %v", n, rows)
		}
		if got := impl.CountQueens(n); got != -1 {
			t.Errorf("CountQueens(%d) = %d", n, got)
		}
		if got := impl.KindsOfQueens(n); got != -1 {
			t.Errorf("KindsOfQueens(%d) = %d", n, got)
		}
		for _, list := range [][]int{nil, {}, {0}, {1, 3}, {0, 0}, {-1}, {1, 3, 5, 0, 2, 4}, {0, 2, 4, 6, 1, 3, 5}} {
			if impl.CanStand(n, list) {
				t.Errorf("CanStand(%d, %v) holds", n, list)
			}
			if got := impl.EndsOf(n, list); got != -1 {
				t.Errorf("EndsOf(%d, %v) = %d", n, list, got)
			}
		}
	}
}

func TestInvalidColumnsOfQueens(t *testing.T) {
	for n := 1; n <= impl.MaxQueens; n++ {
		lists := [][]int{
			// Too long, of columns that stand at first or not.
			make([]int, n+1), slices.Repeat([]int{n - 1}, 2*n), make([]int, 100),
			// No columns, at the first and at the last place.
			{-1}, {n}, {n + 1}, {math.MaxInt}, {math.MinInt}, {1 << 32},
			append(make([]int, n-1), n), append(make([]int, n-1), -1), append([]int{n}, make([]int, n-1)...),
			// Both.
			append(make([]int, n), n),
		}
		for _, row := range impl.QueensOf(n) {
			lists = append(lists, append(slices.Clone(row), 0), append(slices.Clone(row[:n-1]), n), append(slices.Clone(row[:n-1]), -1))
		}
		for _, list := range lists {
			if impl.CanStand(n, list) {
				t.Errorf("CanStand(%d, %v) holds", n, list)
			}
			if got := impl.EndsOf(n, list); got != -1 {
				t.Errorf("EndsOf(%d, %v) = %d", n, list, got)
			}
		}
	}
}

func TestInvalidOrders(t *testing.T) {
	lists := [][]int{
		nil, {},
		// Too long.
		{0, 1, 2, 3, 4, 5, 6}, {6, 5, 4, 3, 2, 1, 0}, {1, 3, 5, 0, 2, 4, 0}, make([]int, 100),
		// A number that is no column.
		{1}, {-1}, {2}, {0, 2}, {-1, 0}, {1, 2}, {1, 2, 3}, {0, 1, 2, 3, 4, 6}, {-1, 0, 1, 2, 3, 4}, {math.MaxInt}, {math.MinInt, 0}, {0, 1 << 32},
		// A number twice.
		{0, 0}, {1, 1}, {0, 1, 1}, {2, 2, 0}, {1, 3, 0, 3}, {0, 1, 2, 3, 4, 4}, {5, 1, 2, 3, 4, 5},
	}
	for _, list := range lists {
		same(t, fmt.Sprintf("FirstImage(%v)", list), impl.FirstImage(list), nil)
	}
}

func TestQueensAreFreshAndListsStay(t *testing.T) {
	for n := 1; n <= impl.MaxQueens; n++ {
		want := queensApart(n)
		rows := impl.QueensOf(n)
		for i, row := range rows {
			// What is behind a row in memory belongs to no other row.
			for k := range row[:cap(row)] {
				row[:cap(row)][k] = -7
			}
			if !slices.EqualFunc(rows[i+1:], want[i+1:], slices.Equal) {
				t.Fatalf("QueensOf(%d) behind a change of row %d has %v", n, i, rows[i+1:])
			}
		}
		if again := impl.QueensOf(n); !slices.EqualFunc(again, want, slices.Equal) {
			t.Errorf("QueensOf(%d) behind a change of its result = %v", n, again)
		}
	}
	kept := []int{1, 3, 0, 2, 99, 99}
	list := kept[:4]
	if !impl.CanStand(4, list) || impl.EndsOf(4, list) != 1 || !impl.CanStand(6, list[:2]) || impl.EndsOf(6, list[:2]) != 1 {
		t.Errorf("%v does not stand", list)
	}
	first := impl.FirstImage(list)
	for i := range first[:cap(first)] {
		first[:cap(first)][i] = -7
	}
	same(t, "the list", kept, []int{1, 3, 0, 2, 99, 99})
	same(t, "FirstImage behind a change of its result", impl.FirstImage(list), []int{1, 3, 0, 2})
}
