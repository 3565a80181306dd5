package tests

import (
	"fmt"
	"math"
	"slices"
	"testing"

	"loop.example/piecesonboards/impl"
)

// eachSlideBoard calls f with the columns and the rows of each board of few enough cells for slides.
func eachSlideBoard(f func(w, h int)) {
	eachBoard(func(w, h int) {
		if w*h <= 6 {
			f(w, h)
		}
	})
}

// ordersOf returns all orders of the numbers from 0 up to less than n, those that are all slides of n cells.
func ordersOf(n int) [][]int {
	if n == 0 {
		return [][]int{nil}
	}
	var orders [][]int
	for _, list := range ordersOf(n - 1) {
		for at := range n {
			orders = append(orders, slices.Insert(slices.Clone(list), at, n-1))
		}
	}
	return orders
}

// someOrders returns orders of n numbers: all of them where they are few, and otherwise those that are so many after one another.
func someOrders(n, after int) [][]int {
	orders := ordersOf(n)
	if n <= 5 {
		return orders
	}
	var some [][]int
	for i := 0; i < len(orders); i += after {
		some = append(some, orders[i])
	}
	return some
}

// eachSlide calls f with each board of slides and each slide of it.
func eachSlide(f func(w, h int, list []int)) {
	eachSlideBoard(func(w, h int) {
		for _, list := range ordersOf(w * h) {
			f(w, h, list)
		}
	})
}

// eachTwoSlides calls f with each board of slides, some slides of it, and many others of it.
func eachTwoSlides(f func(w, h int, from, to []int)) {
	eachSlideBoard(func(w, h int) {
		others := someOrders(w*h, 7)
		for _, from := range someOrders(w*h, 97) {
			for _, to := range others {
				f(w, h, from, to)
			}
		}
	})
}

// swapped returns a list with two of its numbers exchanged.
func swapped(list []int, a, b int) []int {
	other := slices.Clone(list)
	other[a], other[b] = list[b], list[a]
	return other
}

// slidesNear returns the slides in which a number one row or one column on has gone into the gap.
func slidesNear(w int, list []int) [][]int {
	gap := slices.Index(list, 0)
	var near [][]int
	for cell := range list {
		if goes(w, "step", cell, gap, nil) {
			near = append(near, swapped(list, cell, gap))
		}
	}
	return near
}

// movesOf returns for each slide to which moves lead from a slide, in print, the fewest of them.
func movesOf(w int, list []int) map[string]int {
	moves := map[string]int{fmt.Sprint(list): 0}
	queue := [][]int{list}
	for len(queue) > 0 {
		at := queue[0]
		queue = queue[1:]
		for _, next := range slidesNear(w, at) {
			if _, met := moves[fmt.Sprint(next)]; !met {
				moves[fmt.Sprint(next)] = moves[fmt.Sprint(at)] + 1
				queue = append(queue, next)
			}
		}
	}
	return moves
}

// fewestIn returns the moves of a slide, -1 if there are none.
func fewestIn(moves map[string]int, list []int) int {
	if fewest, there := moves[fmt.Sprint(list)]; there {
		return fewest
	}
	return -1
}

// oddPairs returns by how many pairs of numbers, as the rest by 2, that stand one way round in one list and the other way round in the other.
func oddPairs(from, to []int) int {
	pairs := 0
	for a := range from {
		for b := range a {
			if (slices.Index(from, a) < slices.Index(from, b)) != (slices.Index(to, a) < slices.Index(to, b)) {
				pairs++
			}
		}
	}
	return pairs % 2
}

// isSlid tests that the fewest moves from a slide to another one are so many, none if they are -1, and their exchanges odd or even.
func isSlid(t *testing.T, w, h int, from, to []int, fewest, odd int) {
	t.Helper()
	if got := impl.FewestSlides(w, h, from, to); got != fewest {
		t.Errorf("FewestSlides(%d, %d, %v, %v) = %d, not %d", w, h, from, to, got, fewest)
	}
	if got := impl.OddSwaps(w, h, from, to); got != odd {
		t.Errorf("OddSwaps(%d, %d, %v, %v) = %d, not %d", w, h, from, to, got, odd)
	}
	if got := impl.CanSlide(w, h, from, to); got != (fewest >= 0) {
		t.Errorf("CanSlide(%d, %d, %v, %v) is %v, the fewest moves are %d", w, h, from, to, got, fewest)
	}
}

// isNoMove tests that no number of a list goes from a cell into the gap.
func isNoMove(t *testing.T, w, h int, list []int, cell int) {
	t.Helper()
	if got, ok := impl.SlideOn(w, h, list, cell); ok || len(got) != 0 {
		t.Errorf("SlideOn(%d, %d, %v, %d) = %v, %v", w, h, list, cell, got, ok)
	}
}

func TestSlidesAreOrders(t *testing.T) {
	if impl.MaxSlide != 6 {
		t.Errorf("MaxSlide = %d", impl.MaxSlide)
	}
	eachSlide(func(w, h int, list []int) {
		if !impl.ValidSlide(w, h, list) {
			t.Errorf("%v is no slide of %d, %d", list, w, h)
		}
	})
	// All lists of up to four numbers from -1 to one above the greatest one, on boards of all sizes.
	for n := range 5 {
		eachList(n+2, n, func(list []int) {
			met := map[int]bool{}
			for i := range list {
				list[i]--
				if list[i] >= 0 && list[i] < n {
					met[list[i]] = true
				}
			}
			for w := -1; w <= 6; w++ {
				for h := -1; h <= 6; h++ {
					want := w >= 1 && h >= 1 && w <= 5 && h <= 5 && w*h == n && len(met) == n
					if got := impl.ValidSlide(w, h, list); got != want {
						t.Errorf("ValidSlide(%d, %d, %v) = %v", w, h, list, got)
					}
				}
			}
		})
	}
}

func TestMovesOfSomeSlides(t *testing.T) {
	for _, c := range []struct {
		w, h int
		list []int
		cell int
		want []int
	}{
		// One row and one column, with the gap at both ends and in the middle.
		{2, 1, []int{0, 1}, 1, []int{1, 0}}, {1, 2, []int{1, 0}, 0, []int{0, 1}}, {3, 1, []int{2, 0, 1}, 0, []int{0, 2, 1}}, {3, 1, []int{2, 0, 1}, 2, []int{2, 1, 0}},
		{5, 1, []int{4, 3, 2, 1, 0}, 3, []int{4, 3, 2, 0, 1}}, {1, 5, []int{0, 3, 2, 1, 4}, 1, []int{3, 0, 2, 1, 4}}, {1, 4, []int{3, 2, 0, 1}, 1, []int{3, 0, 2, 1}},
		// More rows and columns.
		{2, 2, []int{0, 1, 2, 3}, 1, []int{1, 0, 2, 3}}, {2, 2, []int{0, 1, 2, 3}, 2, []int{2, 1, 0, 3}}, {2, 2, []int{3, 1, 2, 0}, 1, []int{3, 0, 2, 1}}, {2, 2, []int{3, 0, 1, 2}, 3, []int{3, 2, 1, 0}},
		{3, 2, []int{1, 0, 2, 3, 4, 5}, 0, []int{0, 1, 2, 3, 4, 5}}, {3, 2, []int{1, 0, 2, 3, 4, 5}, 2, []int{1, 2, 0, 3, 4, 5}}, {3, 2, []int{1, 0, 2, 3, 4, 5}, 4, []int{1, 4, 2, 3, 0, 5}},
		{2, 3, []int{5, 4, 3, 0, 2, 1}, 1, []int{5, 0, 3, 4, 2, 1}}, {2, 3, []int{5, 4, 3, 0, 2, 1}, 2, []int{5, 4, 0, 3, 2, 1}}, {2, 3, []int{5, 4, 3, 0, 2, 1}, 5, []int{5, 4, 3, 1, 2, 0}},
	} {
		got, ok := impl.SlideOn(c.w, c.h, c.list, c.cell)
		if !ok {
			t.Errorf("SlideOn(%d, %d, %v, %d) makes none", c.w, c.h, c.list, c.cell)
		}
		same(t, fmt.Sprintf("SlideOn(%d, %d, %v, %d)", c.w, c.h, c.list, c.cell), got, c.want)
	}
	for _, c := range []struct {
		w, h int
		list []int
		cell int
	}{
		// The gap itself, two on, and aslant.
		{1, 1, []int{0}, 0}, {2, 1, []int{0, 1}, 0}, {3, 1, []int{0, 1, 2}, 2}, {1, 3, []int{2, 1, 0}, 0}, {5, 1, []int{0, 1, 2, 3, 4}, 4}, {2, 2, []int{0, 1, 2, 3}, 3}, {2, 2, []int{1, 0, 2, 3}, 2}, {3, 2, []int{1, 0, 2, 3, 4, 5}, 3}, {3, 2, []int{1, 0, 2, 3, 4, 5}, 5},
		// The next cell by number, in the next row.
		{2, 2, []int{1, 0, 2, 3}, 1}, {3, 2, []int{1, 2, 0, 3, 4, 5}, 3}, {3, 2, []int{1, 2, 3, 0, 4, 5}, 2}, {2, 3, []int{1, 2, 3, 0, 4, 5}, 4}, {2, 3, []int{1, 2, 0, 3, 4, 5}, 1},
		// Two rows on.
		{2, 3, []int{0, 1, 2, 3, 4, 5}, 4},
	} {
		isNoMove(t, c.w, c.h, c.list, c.cell)
	}
}

func TestFewestMovesOfSomeSlides(t *testing.T) {
	for _, c := range []struct {
		w, h        int
		from, to    []int
		fewest, odd int
	}{
		// One cell, one row and one column, of the same class.
		{1, 1, []int{0}, []int{0}, 0, 0}, {2, 1, []int{0, 1}, []int{0, 1}, 0, 0}, {1, 2, []int{0, 1}, []int{1, 0}, 1, 1}, {4, 1, []int{0, 1, 2, 3}, []int{1, 2, 0, 3}, 2, 0}, {1, 4, []int{3, 2, 1, 0}, []int{0, 3, 2, 1}, 3, 1},
		{5, 1, []int{0, 1, 2, 3, 4}, []int{1, 2, 3, 4, 0}, 4, 0}, {5, 1, []int{1, 2, 0, 3, 4}, []int{0, 1, 2, 3, 4}, 2, 0},
		// The other class, by odd exchanges and by even ones.
		{1, 3, []int{1, 2, 0}, []int{2, 0, 1}, -1, 0}, {4, 1, []int{0, 1, 2, 3}, []int{2, 1, 0, 3}, -1, 1}, {1, 4, []int{3, 2, 1, 0}, []int{0, 1, 2, 3}, -1, 0}, {5, 1, []int{1, 2, 0, 3, 4}, []int{2, 1, 0, 3, 4}, -1, 1},
		{5, 1, []int{0, 1, 2, 3, 4}, []int{0, 2, 3, 1, 4}, -1, 0}, {5, 1, []int{0, 1, 2, 3, 4}, []int{2, 3, 1, 0, 4}, -1, 1},
		// Two rows and two columns.
		{2, 2, []int{0, 1, 2, 3}, []int{0, 1, 2, 3}, 0, 0}, {2, 2, []int{0, 1, 2, 3}, []int{2, 1, 0, 3}, 1, 1}, {2, 2, []int{0, 1, 2, 3}, []int{1, 3, 0, 2}, 3, 1}, {2, 2, []int{0, 1, 2, 3}, []int{0, 3, 1, 2}, 4, 0},
		{2, 2, []int{0, 1, 2, 3}, []int{0, 2, 3, 1}, 4, 0}, {2, 2, []int{0, 1, 2, 3}, []int{3, 2, 1, 0}, 6, 0}, {2, 2, []int{1, 2, 3, 0}, []int{2, 0, 1, 3}, 3, 1}, {2, 2, []int{1, 2, 3, 0}, []int{1, 3, 2, 0}, -1, 1}, {2, 2, []int{0, 1, 2, 3}, []int{3, 0, 2, 1}, -1, 0},
		// More, with moves of one board that the turned one does not have.
		{3, 2, []int{1, 2, 3, 4, 5, 0}, []int{0, 1, 2, 3, 4, 5}, 15, 1}, {2, 3, []int{1, 2, 3, 4, 5, 0}, []int{0, 1, 2, 3, 4, 5}, 19, 1}, {3, 2, []int{1, 2, 3, 4, 5, 0}, []int{5, 4, 3, 2, 1, 0}, 14, 0}, {2, 3, []int{1, 2, 3, 4, 5, 0}, []int{5, 4, 3, 2, 1, 0}, 20, 0},
		{3, 2, []int{0, 1, 2, 3, 4, 5}, []int{1, 2, 0, 3, 4, 5}, 2, 0}, {2, 3, []int{0, 1, 2, 3, 4, 5}, []int{1, 2, 0, 3, 4, 5}, -1, 0}, {2, 3, []int{0, 1, 2, 3, 4, 5}, []int{2, 1, 0, 3, 4, 5}, 1, 1}, {3, 2, []int{0, 1, 2, 3, 4, 5}, []int{2, 1, 0, 3, 4, 5}, -1, 1},
		{3, 2, []int{0, 1, 2, 3, 4, 5}, []int{3, 4, 5, 0, 1, 2}, 21, 1}, {2, 3, []int{0, 1, 2, 3, 4, 5}, []int{1, 0, 3, 2, 5, 4}, 21, 1}, {3, 2, []int{0, 1, 2, 3, 4, 5}, []int{0, 2, 1, 4, 3, 5}, 16, 0},
		{3, 2, []int{1, 2, 3, 4, 5, 0}, []int{1, 2, 3, 5, 4, 0}, -1, 1}, {3, 2, []int{0, 1, 2, 3, 4, 5}, []int{0, 2, 1, 3, 4, 5}, -1, 1},
	} {
		isSlid(t, c.w, c.h, c.from, c.to, c.fewest, c.odd)
	}
}

func TestRoundsOfSomeSlides(t *testing.T) {
	corner := []int{1, 2, 3, 5, 6, 7, 10, 12, 12, 16, 23, 25, 28, 39, 44, 40, 29, 21, 18, 12, 6, 1}
	middle := []int{1, 3, 4, 4, 6, 10, 10, 10, 16, 20, 20, 26, 36, 40, 40, 37, 29, 20, 14, 9, 4, 1}
	for _, c := range []struct {
		w, h int
		list []int
		want []int
	}{
		{1, 1, []int{0}, []int{1}}, {2, 1, []int{0, 1}, []int{1, 1}}, {1, 2, []int{1, 0}, []int{1, 1}}, {3, 1, []int{1, 0, 2}, []int{1, 2}}, {1, 4, []int{3, 2, 1, 0}, []int{1, 1, 1, 1}},
		{5, 1, []int{1, 2, 0, 3, 4}, []int{1, 2, 2}}, {5, 1, []int{1, 0, 2, 3, 4}, []int{1, 2, 1, 1}}, {1, 5, []int{0, 4, 3, 2, 1}, []int{1, 1, 1, 1, 1}},
		{2, 2, []int{0, 1, 2, 3}, []int{1, 2, 2, 2, 2, 2, 1}}, {2, 2, []int{3, 1, 0, 2}, []int{1, 2, 2, 2, 2, 2, 1}},
		{3, 2, []int{0, 1, 2, 3, 4, 5}, corner}, {3, 2, []int{1, 2, 3, 4, 5, 0}, corner}, {2, 3, []int{0, 1, 2, 3, 4, 5}, corner}, {2, 3, []int{5, 4, 3, 2, 1, 0}, corner},
		{3, 2, []int{1, 0, 2, 3, 4, 5}, middle}, {3, 2, []int{5, 4, 3, 2, 0, 1}, middle}, {2, 3, []int{1, 2, 0, 3, 4, 5}, middle},
	} {
		same(t, fmt.Sprintf("SlideRounds(%d, %d, %v)", c.w, c.h, c.list), impl.SlideRounds(c.w, c.h, c.list), c.want)
	}
}

// P31.
func TestSlidesMayBeTurned(t *testing.T) {
	eachSlide(func(w, h int, list []int) {
		if !impl.ValidSlide(h, w, list) {
			t.Errorf("%v is a slide of %d, %d, but not of the turned board", list, w, h)
		}
		// A row of six cells is no board.
		row := w*h <= impl.MaxSide
		if impl.ValidSlide(w*h, 1, list) != row || impl.ValidSlide(1, w*h, list) != row {
			t.Errorf("of one row, and of one column, %v is a slide: not %v", list, row)
		}
	})
}

// P32.
func TestSlidesMayBeTakenBack(t *testing.T) {
	eachSlide(func(w, h int, list []int) {
		gap := slices.Index(list, 0)
		for cell := range list {
			if !goes(w, "step", gap, cell, nil) {
				isNoMove(t, w, h, list, cell)
				continue
			}
			got, ok := impl.SlideOn(w, h, list, cell)
			if !ok || !slices.Equal(got, swapped(list, gap, cell)) || !impl.ValidSlide(w, h, got) {
				t.Errorf("SlideOn(%d, %d, %v, %d) = %v, %v", w, h, list, cell, got, ok)
				continue
			}
			if back, ok := impl.SlideOn(w, h, got, gap); !ok || !slices.Equal(back, list) {
				t.Errorf("SlideOn(%d, %d, %v, %d) = %v, back %v", w, h, list, cell, got, back)
			}
			if a, b := impl.OddSwaps(w, h, list, got), impl.OddSwaps(w, h, got, list); a != 1 || b != 1 {
				t.Errorf("OddSwaps(%d, %d, %v, %v) = %d, back %d", w, h, list, got, a, b)
			}
		}
		for _, cell := range []int{-1, len(list), -len(list), gap - w*h, gap + w*h, math.MinInt, math.MaxInt} {
			isNoMove(t, w, h, list, cell)
		}
	})
}

// P33.
func TestWhatCanBeSlidIsToldWithoutMoves(t *testing.T) {
	eachTwoSlides(func(w, h int, from, to []int) {
		fewest := impl.FewestSlides(w, h, from, to)
		if got := impl.CanSlide(w, h, from, to); got != (fewest >= 0) || fewest < -1 {
			t.Errorf("CanSlide(%d, %d, %v, %v) is %v, the fewest moves are %d", w, h, from, to, got, fewest)
		}
		if back := impl.FewestSlides(w, h, to, from); back != fewest {
			t.Errorf("FewestSlides(%d, %d, %v, %v) = %d, back %d", w, h, from, to, fewest, back)
		}
		if (fewest == 0) != slices.Equal(from, to) {
			t.Errorf("FewestSlides(%d, %d, %v, %v) = %d", w, h, from, to, fewest)
		}
	})
}

// P33 and P35, told by moves that are made one by one.
func TestFewestSlidesAreToldByMoves(t *testing.T) {
	eachSlideBoard(func(w, h int) {
		orders, others := ordersOf(w*h), someOrders(w*h, 7)
		for _, from := range someOrders(w*h, 97) {
			moves := movesOf(w, from)
			for _, to := range orders {
				if got, want := impl.CanSlide(w, h, from, to), fewestIn(moves, to) >= 0; got != want {
					t.Errorf("CanSlide(%d, %d, %v, %v) is %v", w, h, from, to, got)
				}
			}
			for _, to := range others {
				isSlid(t, w, h, from, to, fewestIn(moves, to), oddPairs(from, to))
			}
		}
	})
}

// P34.
func TestSwapsAreOddBothWays(t *testing.T) {
	eachTwoSlides(func(w, h int, from, to []int) {
		odd := oddPairs(from, to)
		if a, b := impl.OddSwaps(w, h, from, to), impl.OddSwaps(w, h, to, from); a != odd || b != odd {
			t.Errorf("OddSwaps(%d, %d, %v, %v) = %d, back %d, not %d", w, h, from, to, a, b, odd)
		}
	})
	eachSlide(func(w, h int, list []int) {
		if got := impl.OddSwaps(w, h, list, list); got != 0 {
			t.Errorf("OddSwaps(%d, %d) of %v and itself = %d", w, h, list, got)
		}
		// Any exchange is one, of the gap or not, and of numbers beside each other or not.
		for a := range list {
			for b := range a {
				if got := impl.OddSwaps(w, h, list, swapped(list, a, b)); got != 1 {
					t.Errorf("OddSwaps(%d, %d) of %v by the cells %d and %d = %d", w, h, list, a, b, got)
				}
			}
		}
	})
}

// P35.
func TestSlidesComeInClasses(t *testing.T) {
	eachSlide(func(w, h int, list []int) {
		if !impl.CanSlide(w, h, list, list) || impl.FewestSlides(w, h, list, list) != 0 {
			t.Errorf("CanSlide(%d, %d) of %v and itself does not hold", w, h, list)
		}
	})
	eachTwoSlides(func(w, h int, from, to []int) {
		if a, b := impl.CanSlide(w, h, from, to), impl.CanSlide(w, h, to, from); a != b {
			t.Errorf("CanSlide(%d, %d, %v, %v) is %v, back %v", w, h, from, to, a, b)
		}
	})
	eachSlideBoard(func(w, h int) {
		orders, size := ordersOf(w*h), classSize(w, h)
		for _, from := range someOrders(w*h, 97) {
			count := 0
			for _, to := range orders {
				can := impl.CanSlide(w, h, from, to)
				if can {
					count++
				}
				// There are two classes where there is more than one row and one column, and an exchange leads to the other one.
				if a, b := slices.Index(to, 1), slices.Index(to, 2); min(w, h) > 1 && impl.CanSlide(w, h, from, swapped(to, a, b)) == can {
					t.Errorf("CanSlide(%d, %d, %v, %v) is %v, and with 1 and 2 exchanged", w, h, from, to, can)
				}
			}
			if count != size {
				t.Errorf("CanSlide(%d, %d, %v) holds of %d slides, not %d", w, h, from, count, size)
			}
		}
	})
}

// classSize returns how many slides come from one: half of all orders of the numbers, or as many as cells on one row or one column.
func classSize(w, h int) int {
	if min(w, h) == 1 {
		return w * h
	}
	return len(ordersOf(w*h)) / 2
}

// P36.
func TestHalfOfAllSlidesCome(t *testing.T) {
	eachSlideBoard(func(w, h int) {
		size := classSize(w, h)
		for _, list := range ordersOf(w * h) {
			sum := 0
			for _, count := range impl.SlideRounds(w, h, list) {
				sum += count
			}
			if sum != size {
				t.Errorf("SlideRounds(%d, %d, %v) are together %d, not %d", w, h, list, sum, size)
			}
		}
	})
}

// P36, told by moves that are made one by one.
func TestRoundsAreToldByMoves(t *testing.T) {
	eachSlideBoard(func(w, h int) {
		for _, list := range someOrders(w*h, 97) {
			var want []int
			for _, fewest := range movesOf(w, list) {
				want = append(want, make([]int, max(0, fewest+1-len(want)))...)
				want[fewest]++
			}
			same(t, fmt.Sprintf("SlideRounds(%d, %d, %v)", w, h, list), impl.SlideRounds(w, h, list), want)
		}
	})
}

// P61.
func TestAMoveChangesByOne(t *testing.T) {
	eachTwoSlides(func(w, h int, from, to []int) {
		fewest := impl.FewestSlides(w, h, from, to)
		for cell := range from {
			next, ok := impl.SlideOn(w, h, from, cell)
			if !ok {
				continue
			}
			got := impl.FewestSlides(w, h, next, to)
			if (got >= 0) != (fewest >= 0) || fewest >= 0 && away(got, fewest) != 1 {
				t.Errorf("FewestSlides(%d, %d, %v, %v) = %d, behind a move of cell %d %d", w, h, from, to, fewest, cell, got)
			}
		}
	})
}

// notSlid tests that there is nothing of a list that is no slide of a board, alone and with one that may be one.
func notSlid(t *testing.T, w, h int, list, other []int) {
	t.Helper()
	if impl.ValidSlide(w, h, list) {
		t.Errorf("ValidSlide(%d, %d, %v) holds", w, h, list)
	}
	for cell := -1; cell <= len(list); cell++ {
		isNoMove(t, w, h, list, cell)
	}
	isSlid(t, w, h, list, other, -1, -1)
	isSlid(t, w, h, other, list, -1, -1)
	isSlid(t, w, h, list, list, -1, -1)
	if got := impl.SlideRounds(w, h, list); len(got) != 0 {
		t.Errorf("SlideRounds(%d, %d, %v) = %v", w, h, list, got)
	}
}

func TestInvalidBoardsOfSlides(t *testing.T) {
	for _, c := range []struct{ w, h int }{
		// A side of 0, a negative one, and one above the limit, with few cells.
		{0, 1}, {1, 0}, {0, 0}, {0, 4}, {3, 0}, {-1, 2}, {2, -1}, {-2, -2}, {-2, -3}, {-1, -1}, {6, 1}, {1, 6}, {7, 1}, {1, 7}, {6, 0},
		// Too many cells.
		{4, 2}, {2, 4}, {3, 3}, {5, 2}, {2, 5}, {5, 5}, {7, 2}, {6, 6},
		// Sides of which the cells are few as the product wraps around.
		{math.MaxInt, 2}, {2, math.MaxInt}, {math.MinInt, 2}, {math.MinInt, 1}, {math.MaxInt, math.MaxInt}, {math.MinInt, math.MinInt}, {1 << 32, 1 << 32}, {1<<32 + 1, 1}, {1<<32 + 2, 2},
	} {
		for n := range 11 {
			list := make([]int, n)
			for i := range list {
				list[i] = i
			}
			notSlid(t, c.w, c.h, list, list)
			notSlid(t, c.w, c.h, list, otherWayRound(list))
		}
	}
}

func TestInvalidSlides(t *testing.T) {
	eachSlideBoard(func(w, h int) {
		n := w * h
		for _, list := range someOrders(n, 97) {
			// Too few numbers and too many.
			short, long := slices.Clone(list[:n-1]), append(slices.Clone(list), n)
			for _, other := range [][]int{nil, {}, short, long, append(slices.Clone(list), 0), append(slices.Clone(list), list...), append(slices.Clone(list), -1)} {
				notSlid(t, w, h, other, list)
			}
			for cell, number := range list {
				// A number twice, the gap among them, and one that is none of the board's.
				for wrong := range n {
					if wrong != number {
						other := slices.Clone(list)
						other[cell] = wrong
						notSlid(t, w, h, other, list)
					}
				}
				for _, wrong := range []int{-1, n, n + 1, -n, number + n, number - n, number - 1<<32, number + 1<<32, math.MinInt, math.MaxInt} {
					other := slices.Clone(list)
					other[cell] = wrong
					notSlid(t, w, h, other, list)
				}
			}
		}
	})
	// Numbers from 1 on have no gap.
	notSlid(t, 2, 2, []int{1, 2, 3, 4}, []int{0, 1, 2, 3})
	notSlid(t, 1, 1, []int{1}, []int{0})
}

func TestSlidesOfTwoBoards(t *testing.T) {
	isSlid(t, 2, 2, []int{0, 1, 2, 3}, []int{0, 1, 2}, -1, -1)
	isSlid(t, 3, 1, []int{0, 1, 2, 3}, []int{0, 1, 2}, -1, -1)
	isSlid(t, 3, 2, []int{0, 1, 2, 3}, []int{0, 1, 2, 3, 4, 5}, -1, -1)
}

func TestSlidesAreNotChanged(t *testing.T) {
	from, to := []int{1, 2, 3, 4, 5, 0}, []int{0, 1, 2, 3, 4, 5}
	// The numbers behind the end must be neither read nor written.
	list := append(slices.Clone(from), -8, -8)[:6]
	impl.ValidSlide(3, 2, list)
	first, _ := impl.SlideOn(3, 2, list, 2)
	rounds := impl.SlideRounds(3, 2, list)
	want, wantRounds := slices.Clone(first), slices.Clone(rounds)
	for i := range first[:cap(first)] {
		first[:cap(first)][i] = -7
	}
	for i := range rounds[:cap(rounds)] {
		rounds[:cap(rounds)][i] = -7
	}
	isSlid(t, 3, 2, list, to, 15, 1)
	isSlid(t, 3, 2, to, list, 15, 1)
	same(t, "the list", list[:8], append(slices.Clone(from), -8, -8))
	same(t, "the other list", to, []int{0, 1, 2, 3, 4, 5})
	again, _ := impl.SlideOn(3, 2, list, 2)
	same(t, "SlideOn again", again, want)
	same(t, "SlideRounds again", impl.SlideRounds(3, 2, list), wantRounds)
}
