package tests

import (
	"slices"
	"strings"
	"testing"

	"loop.example/g01136/impl"
)

// The model draws partitions as sets of cells and counts there, so that it shares no short cut with the program.

type cell struct{ row, column int }

type diagram map[cell]bool

func draw(p []int) diagram {
	cells := diagram{}
	for r, part := range p {
		for c := range part {
			cells[cell{r, c}] = true
		}
	}
	return cells
}

// read returns the rows of a diagram, and whether they are those of a partition.
func read(cells diagram) ([]int, bool) {
	var p []int
	for r := 0; len(p) == r; r++ {
		part := 0
		for cells[cell{r, part}] {
			part++
		}
		if part > 0 {
			p = append(p, part)
		}
	}
	fits := slices.IsSortedFunc(p, func(a, b int) int { return b - a }) && len(draw(p)) == len(cells)
	return p, fits
}

func (cells diagram) count(is func(cell) bool) int {
	n := 0
	for at := range cells {
		if is(at) {
			n++
		}
	}
	return n
}

func (cells diagram) arm(of cell) int {
	return cells.count(func(at cell) bool { return at.row == of.row && at.column > of.column })
}

func (cells diagram) leg(of cell) int {
	return cells.count(func(at cell) bool { return at.column == of.column && at.row > of.row })
}

func (cells diagram) hook(of cell) int {
	return cells.arm(of) + cells.leg(of) + 1
}

// rim returns the rim hook of a cell, from its lower left end on.
func (cells diagram) rim(of cell) []cell {
	var rim []cell
	for at := range cells {
		if at.row >= of.row && at.column >= of.column && !cells[cell{at.row + 1, at.column + 1}] {
			rim = append(rim, at)
		}
	}
	slices.SortFunc(rim, func(a, b cell) int { return (a.column - a.row) - (b.column - b.row) })
	return rim
}

func (cells diagram) without(taken []cell) diagram {
	left := diagram{}
	for at := range cells {
		left[at] = true
	}
	for _, at := range taken {
		delete(left, at)
	}
	return left
}

func (cells diagram) with(added cell) diagram {
	more := cells.without(nil)
	more[added] = true
	return more
}

func turned(p []int) []int {
	cells := diagram{}
	for at := range draw(p) {
		cells[cell{at.column, at.row}] = true
	}
	q, _ := read(cells)
	return q
}

func border(p []int) string {
	var word strings.Builder
	column := 0
	for _, part := range slices.Backward(p) {
		word.WriteString(strings.Repeat("R", part-column) + "U")
		column = part
	}
	return word.String()
}

var listed = map[int][][]int{}

// partitions returns all partitions of n cells, the greatest one first.
func partitions(n int) [][]int {
	if list, ok := listed[n]; ok {
		return list
	}
	list := partitionsBelow(n, n)
	listed[n] = list
	return list
}

func partitionsBelow(n, limit int) [][]int {
	if n == 0 {
		return [][]int{{}}
	}
	var list [][]int
	for first := min(n, limit); first >= 1; first-- {
		for _, rest := range partitionsBelow(n-first, first) {
			list = append(list, append([]int{first}, rest...))
		}
	}
	return list
}

// samples returns all partitions of few cells, and some of many cells, among them the first and the last one.
func samples() [][]int {
	var list [][]int
	for n := 0; n <= impl.MaxCells; n++ {
		all := partitions(n)
		if n <= 9 {
			list = append(list, all...)
			continue
		}
		for k := 0; k < len(all); k += 1 + len(all)/17 {
			list = append(list, all[k])
		}
		list = append(list, all[len(all)-1])
	}
	return list
}

func ones(n int) []int {
	return slices.Repeat([]int{1}, n)
}

func wantList(t *testing.T, what string, from any, got, want []int, ok bool) {
	t.Helper()
	if !ok || !slices.Equal(got, want) {
		t.Errorf("%s of %v: %v %v, want %v true", what, from, got, ok, want)
	}
}

func wantRows(t *testing.T, what string, from any, got, want [][]int, ok bool) {
	t.Helper()
	if !ok || !slices.EqualFunc(got, want, slices.Equal[[]int]) {
		t.Errorf("%s of %v: %v %v, want %v true", what, from, got, ok, want)
	}
}

func wantValue[V comparable](t *testing.T, what string, from any, got, want V, ok bool) {
	t.Helper()
	if !ok || got != want {
		t.Errorf("%s of %v: %v %v, want %v true", what, from, got, ok, want)
	}
}

func wantNoList(t *testing.T, what string, from any, got []int, ok bool) {
	t.Helper()
	if ok || len(got) != 0 {
		t.Errorf("%s of %v: %v %v, want none false", what, from, got, ok)
	}
}

func wantNoRows(t *testing.T, what string, from any, got [][]int, ok bool) {
	t.Helper()
	if ok || len(got) != 0 {
		t.Errorf("%s of %v: %v %v, want none false", what, from, got, ok)
	}
}

func wantNoValue[V comparable](t *testing.T, what string, from any, got V, ok bool) {
	t.Helper()
	var zero V
	if ok || got != zero {
		t.Errorf("%s of %v: %v %v, want %v false", what, from, got, ok, zero)
	}
}
