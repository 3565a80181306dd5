package impl

import "slices"

// MaxSide is the largest number of rows and of columns of a board.
const MaxSide = 5

// step is how many rows and columns one cell is on from another one.
type step struct {
	rows int
	cols int
}

// piece tells how a kind of piece moves.
type piece interface {
	// steps returns the ways in which the piece goes on.
	steps() []step
	// goesFar reports whether it goes on in the same way again and again.
	goesFar() bool
}

// leaper is a piece that goes one step.
type leaper struct {
	ways []step
}

func (l leaper) steps() []step { return l.ways }

func (l leaper) goesFar() bool { return false }

// slider is a piece that goes on until others or the edge stop it.
type slider struct {
	ways []step
}

func (s slider) steps() []step { return s.ways }

func (s slider) goesFar() bool { return true }

// straightSteps returns the steps to the next row or the next column.
func straightSteps() []step {
	return []step{{-1, 0}, {0, -1}, {0, 1}, {1, 0}}
}

// slantedSteps returns the steps to the next row and the next column.
func slantedSteps() []step {
	return []step{{-1, -1}, {-1, 1}, {1, -1}, {1, 1}}
}

// knightSteps returns the steps to the next row or column and the second one of the other.
func knightSteps() []step {
	return []step{{-2, -1}, {-2, 1}, {-1, -2}, {-1, 2}, {1, -2}, {1, 2}, {2, -1}, {2, 1}}
}

// pieceOf returns the piece of a kind, and whether there is one.
func pieceOf(kind string) (piece, bool) {
	switch kind {
	case "step":
		return leaper{straightSteps()}, true
	case "king":
		return leaper{slices.Concat(straightSteps(), slantedSteps())}, true
	case "knight":
		return leaper{knightSteps()}, true
	case "rook":
		return slider{straightSteps()}, true
	case "bishop":
		return slider{slantedSteps()}, true
	case "queen":
		return slider{slices.Concat(straightSteps(), slantedSteps())}, true
	}
	return nil, false
}

// board has its cells counted row by row from 0.
type board struct {
	cols int
	rows int
}

// boardOf returns the board of w columns and h rows, and whether there is one.
func boardOf(w int, h int) (board, bool) {
	if w < 1 || w > MaxSide || h < 1 || h > MaxSide {
		return board{}, false
	}
	return board{cols: w, rows: h}, true
}

// size returns how many cells the board has.
func (b board) size() int { return b.cols * b.rows }

// has reports whether a number is a cell of the board.
func (b board) has(cell int) bool { return cell >= 0 && cell < b.size() }

// hasAscending reports whether a list is of ascending cells of the board.
func (b board) hasAscending(list []int) bool {
	for i, cell := range list {
		if !b.has(cell) || i > 0 && list[i-1] >= cell {
			return false
		}
	}
	return true
}

// onward returns the cell that is a step on from a cell, and whether the board has it.
func (b board) onward(cell int, s step) (int, bool) {
	row, col := cell/b.cols+s.rows, cell%b.cols+s.cols
	if row < 0 || row >= b.rows || col < 0 || col >= b.cols {
		return 0, false
	}
	return row*b.cols + col, true
}

// reach returns the cells to which a piece goes, ascending.
func (b board) reach(p piece, cell int, others []int) []int {
	var cells []int
	for _, s := range p.steps() {
		at, on := b.onward(cell, s)
		for on {
			cells = append(cells, at)
			if !p.goesFar() || slices.Contains(others, at) {
				break
			}
			at, on = b.onward(at, s)
		}
	}
	slices.Sort(cells)
	return cells
}

// movesFrom returns the fewest moves of a piece from a cell to each cell, -1 where it does not come.
func (b board) movesFrom(p piece, cell int) []int {
	moves := slices.Repeat([]int{-1}, b.size())
	moves[cell] = 0
	queue := []int{cell}
	for len(queue) > 0 {
		at := queue[0]
		queue = queue[1:]
		for _, next := range b.reach(p, at, nil) {
			if moves[next] < 0 {
				moves[next] = moves[at] + 1
				queue = append(queue, next)
			}
		}
	}
	return moves
}

// setUp returns the board of w columns and h rows and the piece of a kind, and whether there are both.
func setUp(w int, h int, kind string) (board, piece, bool) {
	b, fits := boardOf(w, h)
	p, known := pieceOf(kind)
	return b, p, fits && known
}

// ValidKind reports whether a text is a kind of piece.
func ValidKind(kind string) bool {
	_, known := pieceOf(kind)
	return known
}

// ReachOf returns the cells to which a piece goes.
func ReachOf(w int, h int, kind string, cell int, others []int) []int {
	b, p, ok := setUp(w, h, kind)
	if !ok || !b.has(cell) || !b.hasAscending(others) {
		return nil
	}
	return b.reach(p, cell, others)
}

// MovesFrom returns the fewest moves from a cell to each.
func MovesFrom(w int, h int, kind string, cell int) []int {
	b, p, ok := setUp(w, h, kind)
	if !ok || !b.has(cell) {
		return nil
	}
	return b.movesFrom(p, cell)
}

// AllMoves returns how many moves there are on a board.
func AllMoves(w int, h int, kind string) int {
	b, p, ok := setUp(w, h, kind)
	if !ok {
		return -1
	}
	sum := 0
	for cell := 0; cell < b.size(); cell++ {
		sum += len(b.reach(p, cell, nil))
	}
	return sum
}

// PiecesOf returns how many parts a board has for a piece.
func PiecesOf(w int, h int, kind string) int {
	b, p, ok := setUp(w, h, kind)
	if !ok {
		return -1
	}
	// Moves go both ways, so the cells to which a piece comes from one cell are a whole part.
	met := make([]bool, b.size())
	parts := 0
	for cell := range met {
		if met[cell] {
			continue
		}
		parts++
		for to, moves := range b.movesFrom(p, cell) {
			met[to] = met[to] || moves >= 0
		}
	}
	return parts
}
