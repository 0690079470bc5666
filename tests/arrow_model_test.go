package tests

import (
	"fmt"
	"slices"
	"strings"

	"loop.example/g01136/impl"
)

// The model reads signatures off border words, tells by counting which letters are left, and moves drawn cells along ladders and down rows.

// A mark is a letter of a signature, with the row and the content of its cell.
type mark struct {
	letter       byte
	row, content int
}

// marksOfBorder returns the marks of all residues, from the first row on: a step up and one to the right have a place for a cell between them, one to the right and one up a last cell.
func marksOfBorder(p []int) []mark {
	word := "U" + border(p) + "R"
	row, column := len(p), 0
	var marks []mark
	for k := 1; k < len(word); k++ {
		switch word[k-1 : k+1] {
		case "UR":
			marks = append(marks, mark{'A', row, column - row})
		case "RU":
			marks = append(marks, mark{'R', row - 1, column - row})
		}
		if word[k] == 'U' {
			row--
		} else {
			column++
		}
	}
	slices.Reverse(marks)
	return marks
}

// withResidue returns the marks whose cells have a residue.
func withResidue(marks []mark, size, i int) []mark {
	return slices.DeleteFunc(slices.Clone(marks), func(one mark) bool { return mod(one.content, size) != i })
}

func lettersOf(marks []mark) string {
	var text strings.Builder
	for _, one := range marks {
		text.WriteByte(one.letter)
	}
	return text.String()
}

// signatureByCells asks for each row of a drawn partition whether it has a cell to add or to take away.
func signatureByCells(p []int, size, i int) string {
	cells := draw(p)
	text := ""
	for row := range len(p) + 1 {
		inRow := func(at cell) bool { return at.row == row }
		if slices.ContainsFunc(cellsToAdd(cells, size, i), inRow) {
			text += "A"
		}
		if slices.ContainsFunc(cellsToTake(cells, size, i), inRow) {
			text += "R"
		}
	}
	return text
}

// rewritten takes pairs away as long as there are some.
func rewritten(text string) string {
	for strings.Contains(text, "AR") {
		text = strings.Replace(text, "AR", "", 1)
	}
	return text
}

// isLeft reports whether the letter at a place is left: from there on, an R to the front and an A to the end, its own kind is always the more frequent one.
func isLeft(text string, place int) bool {
	step := 1
	if text[place] == 'R' {
		step = -1
	}
	lead := 0
	for at := place; at >= 0 && at < len(text); at += step {
		if text[at] == text[place] {
			lead++
		} else {
			lead--
		}
		if lead == 0 {
			return false
		}
	}
	return true
}

// marksLeft returns the marks that no pair takes away.
func marksLeft(marks []mark) []mark {
	text := lettersOf(marks)
	var left []mark
	for k, one := range marks {
		if isLeft(text, k) {
			left = append(left, one)
		}
	}
	return left
}

// changedIn returns the partition with a cell more or less in a row, with any number of cells.
func changedIn(p []int, row, by int) []int {
	changed := append(slices.Clone(p), 0)
	changed[row] += by
	return slices.DeleteFunc(changed, func(part int) bool { return part == 0 })
}

// upByMarks returns the partition behind the arrow up, with any number of cells, if there is one.
func upByMarks(p []int, size, i int) ([]int, bool) {
	for _, one := range marksLeft(withResidue(marksOfBorder(p), size, i)) {
		if one.letter == 'A' {
			return changedIn(p, one.row, 1), true
		}
	}
	return nil, false
}

// downByMarks returns the partition behind the arrow down, if there is one.
func downByMarks(p []int, size, i int) ([]int, bool) {
	for _, one := range slices.Backward(marksLeft(withResidue(marksOfBorder(p), size, i))) {
		if one.letter == 'R' {
			return changedIn(p, one.row, -1), true
		}
	}
	return nil, false
}

// arrowsDown returns the residues of the arrows down to no cells, the least ones first.
func arrowsDown(p []int, size int) []int {
	var word []int
	for i := 0; i < size && len(p) > 0; i++ {
		if less, ok := downByMarks(p, size, i); ok {
			word = append(word, i)
			p, i = less, -1
		}
	}
	return word
}

// arrowsUp follows a word from its end, and reports whether all of its arrows can be made.
func arrowsUp(size int, word []int) ([]int, bool) {
	var p []int
	for _, i := range slices.Backward(word) {
		more, ok := upByMarks(p, size, i)
		if !ok || sumOf(more) > impl.MaxCells {
			return nil, false
		}
		p = more
	}
	return p, true
}

// mirrored returns the word with the negative residues.
func mirrored(word []int, size int) []int {
	var other []int
	for _, i := range word {
		other = append(other, mod(-i, size))
	}
	return other
}

// hasEqual reports whether a partition has so many equal parts.
func hasEqual(p []int, many int) bool {
	counts := map[int]int{}
	for _, part := range p {
		counts[part]++
		if counts[part] == many {
			return true
		}
	}
	return false
}

// regularPartitions returns all regular partitions of n cells, the greatest one first.
func regularPartitions(size, n int) [][]int {
	return slices.DeleteFunc(slices.Clone(partitions(n)), func(p []int) bool { return hasEqual(p, size) })
}

// eachRegular calls a check with the regular ones of few cells, and with some of many cells.
func eachRegular(check func(p []int, size int)) {
	for size := 2; size <= impl.MaxRunners; size++ {
		for n := 0; n <= impl.MaxCells; n++ {
			list := regularPartitions(size, n)
			step := 1
			if n > 14 {
				step += len(list) / 25
			}
			for k := 0; k < len(list); k += step {
				check(list[k], size)
			}
		}
	}
}

// A symbolColumn has the number of cells of the rim of segments, and that of all rows.
type symbolColumn struct{ cells, rows int }

// symbolOf takes rims of segments away until no cells are left: each segment has so many cells, and the next one begins at the end of the next row. Such a symbol belongs to one regular partition alone.
func symbolOf(p []int, size int) []symbolColumn {
	var symbol []symbolColumn
	for cells := draw(p); len(cells) > 0; {
		taken := segmentedRim(cells, size)
		rows, _ := read(cells)
		symbol = append(symbol, symbolColumn{len(taken), len(rows)})
		cells = cells.without(taken)
	}
	return symbol
}

func segmentedRim(cells diagram, size int) []cell {
	rim := cells.rim(cell{0, 0})
	slices.Reverse(rim)
	var taken []cell
	for _, at := range rim {
		segmentIsFull := len(taken) > 0 && len(taken)%size == 0
		if segmentIsFull && at.row == taken[len(taken)-1].row {
			continue
		}
		taken = append(taken, at)
	}
	return taken
}

// mirroredSymbol returns the symbol of the mirrored partition, by Mullineux's rule.
func mirroredSymbol(symbol []symbolColumn, size int) []symbolColumn {
	var other []symbolColumn
	for _, column := range symbol {
		rows := column.cells - column.rows
		if column.cells%size != 0 {
			rows++
		}
		other = append(other, symbolColumn{column.cells, rows})
	}
	return other
}

// ladderByWalk walks down the ladder to the first column: each column to the left it is size - 1 rows lower.
func ladderByWalk(at cell, size int) int {
	for ; at.column > 0; at.column-- {
		at.row += size - 1
	}
	return at.row
}

// regularByMoves moves cells up their ladders to free places as long as there are some.
func regularByMoves(p []int, size int) []int {
	free := draw(p)
	for moved := true; moved; {
		moved = false
		for at := range free {
			up := cell{at.row - (size - 1), at.column + 1}
			if up.row >= 0 && !free[up] {
				free = free.without([]cell{at}).with(up)
				moved = true
				break
			}
		}
	}
	q, fits := read(free)
	if !fits {
		return []int{-1}
	}
	return q
}

var belowSets = map[string]map[string]bool{}

// belowByMoves returns a partition and all others that are made of it by moving cells, one by one, to lower rows.
func belowByMoves(p []int) map[string]bool {
	key := fmt.Sprint(p)
	if set, ok := belowSets[key]; ok {
		return set
	}
	set := map[string]bool{key: true}
	cells := draw(p)
	for _, from := range cellsToTake(cells, 1, 0) {
		less := cells.without([]cell{from})
		for _, to := range cellsToAdd(less, 1, 0) {
			if to.row <= from.row {
				continue
			}
			q, _ := read(less.with(to))
			for other := range belowByMoves(q) {
				set[other] = true
			}
		}
	}
	belowSets[key] = set
	return set
}

// isAboveBySums adds up the first parts, as many of both.
func isAboveBySums(p, q []int) bool {
	for k := range impl.MaxCells {
		if sumOf(p[:min(k, len(p))]) < sumOf(q[:min(k, len(q))]) {
			return false
		}
	}
	return sumOf(p) == sumOf(q)
}
