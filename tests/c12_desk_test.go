package tests

import (
	"slices"
	"strconv"
	"strings"
	"testing"

	"loop.example/piecesonboards/impl"
)

// deskLine is a line and its answer.
type deskLine struct {
	line, answer string
}

// checkDesk checks the answers to lines one after the other, each of them against its own.
func checkDesk(t *testing.T, list ...deskLine) {
	t.Helper()
	var lines []string
	want := ""
	for _, l := range list {
		lines = append(lines, l.line)
		want += l.answer + "\n"
	}
	if got := impl.RunDesk(lines); got != want {
		t.Errorf("RunDesk(%q) = %q, not %q", lines, got, want)
	}
}

// askOn checks the answers to lines on a board, with as many desks as they need, each of which makes the board first.
func askOn(t *testing.T, w, h int, list []deskLine) {
	t.Helper()
	for part := range slices.Chunk(list, impl.MaxDesk-1) {
		checkDesk(t, append([]deskLine{{boardLine(w, h), "done"}}, part...)...)
	}
}

// boardLine returns the line that makes a board.
func boardLine(w, h int) string {
	return "board " + strconv.Itoa(w) + " " + strconv.Itoa(h)
}

// allAnswered checks that each line has the answer on the first board, and leaves that as it is.
func allAnswered(t *testing.T, answer string, lines ...string) {
	t.Helper()
	for _, line := range lines {
		checkDesk(t, deskLine{line, answer}, deskLine{"king 8", "4,5,7"}, deskLine{"rook 2", "0,1,5,8"})
	}
}

// commas returns numbers with a comma between two.
func commas(numbers []int) string {
	text := ""
	for i, n := range numbers {
		if i > 0 {
			text += ","
		}
		text += strconv.Itoa(n)
	}
	return text
}

// ifSo returns the answer where a line has one, and wrong otherwise.
func ifSo(so bool, answer string) string {
	if so {
		return answer
	}
	return "wrong"
}

// mixedLines returns n lines of all that a desk may be asked, well and nearly well, mixed by a number.
func mixedLines(seed, n int) []string {
	words := []string{"board", "tile", "dark", "pegs", "fold", "step", "king", "knight", "rook", "bishop", "queen", "Tile", "", "kin"}
	tails := []string{"", " ", " 0", " 1", " 7", " 100", " -1", " 01", " 2 3", " 4 3", " 5 5", " 6 1", " 3  3", " x", "\n", " 1\n"}
	mixed := uint64(seed)
	next := func(limit int) int {
		mixed = mixed*6364136223846793005 + 1442695040888963407
		return int(mixed>>33) % limit
	}
	var lines []string
	for range n {
		lines = append(lines, words[next(len(words))]+tails[next(len(tails))])
	}
	return lines
}

// P55. Each kind of line has its answer on the first board, of 3 columns and 3 rows.
func TestDeskFirstBoard(t *testing.T) {
	for _, l := range []deskLine{
		{"board 3 3", "done"},
		{"step 0", "1,3"},
		{"king 4", "0,1,2,3,5,6,7,8"},
		{"knight 0", "5,7"},
		{"rook 0", "1,2,3,6"},
		{"bishop 2", "4,6"},
		{"queen 8", "0,2,4,5,6,7"},
		{"tile", "0"},
		{"dark 0", "0"},
		{"dark 16", "5"},
		{"dark 511", "5"},
		{"pegs 0", "0"},
		{"pegs 3", "1"},
		{"pegs 511", "9"},
		{"fold", "0,1,2,3,4,5,6,7"},
	} {
		checkDesk(t, l)
	}
}

// P55. Answers that have nothing in them, and those of -1, are lines too.
func TestDeskBareAnswers(t *testing.T) {
	checkDesk(t,
		deskLine{"knight 4", ""},
		deskLine{"board 2 1", "done"},
		deskLine{"dark 1", "-1"},
		deskLine{"dark 3", "1"},
		deskLine{"bishop 1", ""},
		deskLine{"board 1 1", "done"},
		deskLine{"queen 0", ""},
		deskLine{"tile", "0"},
		deskLine{"dark 1", "1"},
		deskLine{"pegs 1", "1"},
		deskLine{"fold", ""},
	)
}

// P55. Boards are changed between lines, columns before rows, and stay as they are where a line makes none.
func TestDeskBoards(t *testing.T) {
	checkDesk(t,
		deskLine{"board 4 3", "done"},
		deskLine{"tile", "11"},
		deskLine{"knight 0", "6,9"},
		deskLine{"board 3 4", "done"},
		deskLine{"knight 0", "5,7"},
		deskLine{"board 0 3", "wrong"},
		deskLine{"board 4 6", "wrong"},
		deskLine{"board 4 5 ", "wrong"},
		deskLine{"Board 4 5", "what"},
		deskLine{"knight 0", "5,7"},
		deskLine{"board 5 1", "done"},
		deskLine{"rook 2", "0,1,3,4"},
		deskLine{"pegs 11", "1"},
		deskLine{"board 1 5", "done"},
		deskLine{"king 2", "1,3"},
		deskLine{"board 5 5", "done"},
		deskLine{"queen 24", "0,4,6,9,12,14,18,19,20,21,22,23"},
	)
}

// P55. Each desk begins with the first board, whatever another one was asked, and leaves its lines as they are.
func TestDeskAnew(t *testing.T) {
	lines := []string{"rook 8", "board 5 2", "rook 8"}
	asked := slices.Clone(lines)
	for range 3 {
		if got := impl.RunDesk(lines); got != "2,5,6,7\ndone\n3,5,6,7,9\n" || !slices.Equal(lines, asked) {
			t.Errorf("RunDesk(%q) = %q", lines, got)
		}
	}
}

// P55. Pieces are asked for each cell of each board, and for those that are none.
func TestDeskPieces(t *testing.T) {
	eachKind(func(w, h int, kind string) {
		var list []deskLine
		for cell := -1; cell <= w*h; cell++ {
			so := cell >= 0 && cell < w*h
			list = append(list, deskLine{kind + " " + strconv.Itoa(cell), ifSo(so, commas(impl.ReachOf(w, h, kind, cell, nil)))})
		}
		askOn(t, w, h, list)
	})
}

// P55. Sets of lights and of pegs are asked on each board of at most 12 cells, and are wrong on others.
func TestDeskSets(t *testing.T) {
	eachBoard(func(w, h int) {
		n := w * h
		var list []deskLine
		for _, set := range append(someSets(n), -1, 1<<n, 1<<n+1) {
			so := n <= impl.MaxLights && set >= 0 && set < 1<<n
			number := strconv.Itoa(set)
			list = append(list,
				deskLine{"dark " + number, ifSo(so, strconv.Itoa(impl.FewestPresses(w, h, set)))},
				deskLine{"pegs " + number, ifSo(so, strconv.Itoa(impl.FewestLeft(w, h, set)))})
		}
		askOn(t, w, h, list)
	})
}

// P55. Covers are asked on each board, and folds on each one of at most 9 cells, and are wrong on others.
func TestDeskWholeBoards(t *testing.T) {
	eachBoard(func(w, h int) {
		askOn(t, w, h, []deskLine{
			{"tile", strconv.Itoa(impl.TileCount(w, h, nil))},
			{"fold", ifSo(w*h <= impl.MaxCells, commas(impl.FoldOrder(w, h, "king")))},
		})
	})
}

// P55. Sides are numbers from 1 to 5, and each other number is wrong.
func TestDeskSides(t *testing.T) {
	for w := -1; w <= impl.MaxSide+2; w++ {
		for h := -1; h <= impl.MaxSide+2; h++ {
			so := w >= 1 && w <= impl.MaxSide && h >= 1 && h <= impl.MaxSide
			after := "0,1,5,8"
			if so {
				after = ifSo(w*h > 2, commas(impl.ReachOf(w, h, "rook", 2, nil)))
			}
			checkDesk(t, deskLine{boardLine(w, h), ifSo(so, "done")}, deskLine{"rook 2", after})
		}
	}
}

// P55. Boards that are too large for a line are wrong for it, also with a set that smaller ones have, and not for others.
func TestDeskLargeBoards(t *testing.T) {
	checkDesk(t,
		deskLine{"board 5 2", "done"},
		deskLine{"fold", "wrong"},
		deskLine{"dark 0", "0"},
		deskLine{"pegs 1023", "10"},
		deskLine{"pegs 1024", "wrong"},
		deskLine{"board 3 4", "done"},
		deskLine{"fold", "wrong"},
		deskLine{"dark 4095", strconv.Itoa(impl.FewestPresses(3, 4, 4095))},
		deskLine{"dark 4096", "wrong"},
		deskLine{"pegs 4095", "12"},
		deskLine{"board 5 3", "done"},
		deskLine{"fold", "wrong"},
		deskLine{"dark 0", "wrong"},
		deskLine{"pegs 0", "wrong"},
		deskLine{"tile", "0"},
		deskLine{"step 14", "9,13"},
		deskLine{"board 2 4", "done"},
		deskLine{"fold", commas(impl.FoldOrder(2, 4, "king"))},
	)
}

// P55. Numbers are wrong with leading zeros, with signs, with nothing in them, with other bytes, and beyond all limits.
func TestDeskNumbers(t *testing.T) {
	for _, number := range []string{
		"", "00", "01", "007", "+0", "+1", "-0", "-1", "-", "+", "--1", "0x1", "1_0", "1e0", "1.0", "1,2", "a", "0a", "a0",
		"\t1", "1\t", "1\n", "\x00", "\xff", "\u0661", "512", "9223372036854775807", "9223372036854775808", "-9223372036854775808",
		"18446744073709551616", "18446744073709551617", "100000000000000000000000000000000000000001",
	} {
		for _, word := range append([]string{"dark", "pegs"}, kinds...) {
			allAnswered(t, "wrong", word+" "+number)
		}
		allAnswered(t, "wrong", "board "+number+" 3", "board 3 "+number, "board "+number+" "+number)
	}
}

// P55. Lines with a space or a number too many or too few, between or at the end, are wrong.
func TestDeskWrong(t *testing.T) {
	for _, word := range append([]string{"dark", "pegs"}, kinds...) {
		allAnswered(t, "wrong", word, word+" ", word+"  ", word+"  1", word+" 1 ", word+"  1 ", word+" 1 1", word+" 1 x", word+" "+word)
	}
	allAnswered(t, "wrong",
		"tile ", "tile  ", "tile 0", "tile 3", "tile x", "tile tile", "tile fold", "tile \n",
		"fold ", "fold  ", "fold 0", "fold 3", "fold x", "fold fold", "fold king", "fold \t",
		"board", "board ", "board  ", "board   ", "board 3", "board 3 ", "board  3", "board  3 3", "board 3  3", "board 3 3 ",
		"board 3 3  ", "board 3 3 3", "board 33", "board 3,3", "board 3x3", "board x y", "board 3\t3", "board 3 3\n", "board 2 board",
	)
}

// P55. Lines of other words, such as are longer or shorter by a byte, begin with a space, or have nothing in them, are answered by what.
func TestDeskWhat(t *testing.T) {
	tails := []string{"", " ", " 1", " 3 3"}
	for _, word := range append([]string{"board", "tile", "dark", "pegs", "fold"}, kinds...) {
		n := len(word)
		for _, other := range []string{
			word[1:], word[:n-1], word + "s", word + word[n-1:], "s" + word, " " + word, "\t" + word, word + "\t", word + "\n", word + "\x00",
			word + "1", word + ",", strings.ToUpper(word), strings.ToUpper(word[:1]) + word[1:], word + "\u00a0", word[:1] + " " + word[1:],
		} {
			for _, tail := range tails {
				allAnswered(t, "what", other+tail)
			}
		}
	}
	allAnswered(t, "what", "", " ", "  ", "0", "1", "3 3", "-1", "pawn 1", "light 1", "done", "wrong", "what", "reach 1", "\n", "\xff", "tile\ntile")
}

// P55. There is no answer without lines, and none to more lines than 20.
func TestDeskLimit(t *testing.T) {
	if got := impl.RunDesk(nil) + impl.RunDesk([]string{}); got != "" {
		t.Errorf("RunDesk of no line = %q", got)
	}
	for _, l := range []deskLine{{"", "what"}, {"tile", "0"}, {"tile ", "wrong"}, {"knight 4", ""}, {"board 5 5", "done"}} {
		lines := slices.Repeat([]string{l.line}, impl.MaxDesk)
		if got := impl.RunDesk(lines); got != strings.Repeat(l.answer+"\n", impl.MaxDesk) {
			t.Errorf("RunDesk(%q) = %q", lines, got)
		}
		for more := range 3 {
			lines = append(lines, l.line)
			if got := impl.RunDesk(lines); got != "" {
				t.Errorf("RunDesk of %d lines = %q", impl.MaxDesk+1+more, got)
			}
		}
	}
	if impl.MaxDesk != 20 {
		t.Errorf("MaxDesk = %d", impl.MaxDesk)
	}
}

// P55. RunDesk has as many newlines as there are lines, and with fewer lines it is the beginning of it.
func TestDeskBeginnings(t *testing.T) {
	for seed := range 300 {
		lines := mixedLines(seed, impl.MaxDesk)
		all := impl.RunDesk(lines)
		for n := range impl.MaxDesk + 1 {
			got := impl.RunDesk(lines[:n])
			if strings.Count(got, "\n") != n || !strings.HasPrefix(all, got) || n > 0 && !strings.HasSuffix(got, "\n") {
				t.Errorf("RunDesk(%q) = %q, and %q of all lines", lines[:n], got, all)
			}
		}
	}
}
