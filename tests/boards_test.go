package tests

import (
	"slices"
	"testing"

	"loop.example/piecesonboards/impl"
)

// kinds are the kinds of pieces.
var kinds = []string{"step", "king", "knight", "rook", "bishop", "queen"}

// eachBoard calls f with the columns and the rows of each board.
func eachBoard(f func(w, h int)) {
	for w := 1; w <= impl.MaxSide; w++ {
		for h := 1; h <= impl.MaxSide; h++ {
			f(w, h)
		}
	}
}

// eachKind calls f with the columns and the rows of each board and each kind of piece.
func eachKind(f func(w, h int, kind string)) {
	eachBoard(func(w, h int) {
		for _, kind := range kinds {
			f(w, h, kind)
		}
	})
}

// cellsOf returns the cells of a set, a sum of 2 to each, ascending.
func cellsOf(set int) []int {
	var list []int
	for cell := 0; set>>cell > 0; cell++ {
		if set>>cell&1 == 1 {
			list = append(list, cell)
		}
	}
	return list
}

// someSets returns sets of n cells: all of them where they are few, and otherwise none, all, each one, and mixed ones.
func someSets(n int) []int {
	var sets []int
	if n <= 6 {
		for set := range 1 << n {
			sets = append(sets, set)
		}
		return sets
	}
	sets = append(sets, 0, 1<<n-1)
	for cell := range n {
		sets = append(sets, 1<<cell)
	}
	mixed := uint64(n)
	for range 20 {
		// Both halves of one more number in line leave sparse sets, in which lines are stopped late.
		mixed = mixed*6364136223846793005 + 1442695040888963407
		sets = append(sets, int(mixed>>33)&int(mixed>>7)&(1<<n-1))
	}
	return sets
}

// turned returns the cell of the board with columns and rows exchanged that is the cell of a board with w columns and h rows.
func turned(w, h, cell int) int {
	return cell%w*h + cell/w
}

// same reports whether two lists have the same numbers, nil and empty being the same.
func same(t *testing.T, what string, got, want []int) {
	t.Helper()
	if !slices.Equal(got, want) {
		t.Errorf("%s = %v, not %v", what, got, want)
	}
}

// away returns the distance of two numbers.
func away(a, b int) int {
	return max(a-b, b-a)
}
