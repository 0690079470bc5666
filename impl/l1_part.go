package impl

import (
	"slices"
	"strconv"
	"strings"
)

const MaxCells = 30
const MaxListedCells = 14

// IsPartition reports whether p is a partition.
func IsPartition(p []int) bool {
	// So few parts of at most MaxCells cannot overflow the sum.
	if len(p) > MaxCells {
		return false
	}
	limit := MaxCells
	for _, part := range p {
		if part < 1 || part > limit {
			return false
		}
		limit = part
	}
	return cellCount(p) <= MaxCells
}

// CellsOf returns the number of cells.
func CellsOf(p []int) (int, bool) {
	if !IsPartition(p) {
		return 0, false
	}
	return cellCount(p), true
}

// ConjugateOf returns the conjugate.
func ConjugateOf(p []int) ([]int, bool) {
	if !IsPartition(p) {
		return nil, false
	}
	return columnsOf(p), true
}

// HookAt returns the hook of a cell.
func HookAt(p []int, r int, c int) (int, bool) {
	if !isCell(p, r, c) {
		return 0, false
	}
	return hookOf(p, columnsOf(p), place{r, c}), true
}

// HooksOf returns the hooks of all cells, row by row.
func HooksOf(p []int) ([][]int, bool) {
	if !IsPartition(p) {
		return nil, false
	}
	columns := columnsOf(p)
	return rowsOf(p, func(cell place) int { return hookOf(p, columns, cell) }), true
}

// ContentsOf returns the contents of all cells, row by row.
func ContentsOf(p []int) ([][]int, bool) {
	if !IsPartition(p) {
		return nil, false
	}
	return rowsOf(p, place.content), true
}

// BorderWord returns the border word.
func BorderWord(p []int) (string, bool) {
	if !IsPartition(p) {
		return "", false
	}
	var word strings.Builder
	at := place{len(p), 0}
	for at.row > 0 {
		letter := letterAt(p, at)
		word.WriteByte(letter)
		at = stepOf(letter)(at)
	}
	return word.String(), true
}

// FromBorder returns the partition with a border word of at most 2 MaxCells letters. It fails if there is none.
func FromBorder(w string) ([]int, bool) {
	if len(w) > 2*MaxCells || !hasBorderEnds(w) {
		return nil, false
	}
	at := place{sumOver([]byte(w), rise), 0}
	p := make([]int, at.row)
	for i := range len(w) {
		step := stepOf(w[i])
		if step == nil {
			return nil, false
		}
		next := step(at)
		if next.row < at.row {
			p[next.row] = next.column
		}
		at = next
	}
	if !IsPartition(p) {
		return nil, false
	}
	return p, true
}

// CornersOf returns the rows whose last cell can be taken away, increasing.
func CornersOf(p []int) ([]int, bool) {
	if !IsPartition(p) {
		return nil, false
	}
	var rows []int
	for r, part := range p {
		if r == len(p)-1 || part > p[r+1] {
			rows = append(rows, r)
		}
	}
	return rows, true
}

// AddableOf returns the rows, a new one counted, where a cell can be added, increasing, also if there would be too many cells.
func AddableOf(p []int) ([]int, bool) {
	if !IsPartition(p) {
		return nil, false
	}
	var rows []int
	for r, part := range p {
		if r == 0 || part < p[r-1] {
			rows = append(rows, r)
		}
	}
	return append(rows, len(p)), true
}

// RimHook returns the cells of the rim hook of a cell, from its lower left end on.
func RimHook(p []int, r int, c int) ([][]int, bool) {
	if !isCell(p, r, c) {
		return nil, false
	}
	var cells [][]int
	for _, cell := range rimOf(p, place{r, c}) {
		cells = append(cells, []int{cell.row, cell.column})
	}
	return cells, true
}

// WithoutRim returns the partition without the rim hook of a cell, and the number of its rows less 1, which is the leg of the cell.
func WithoutRim(p []int, r int, c int) ([]int, int, bool) {
	if !isCell(p, r, c) {
		return nil, 0, false
	}
	rim := rimOf(p, place{r, c})
	left := slices.Clone(p)
	for _, cell := range rim {
		left[cell.row]--
	}
	return withoutEmptyRows(left), rim[0].row - r, true
}

// IsInside reports whether all cells of p are cells of q.
func IsInside(p []int, q []int) (bool, bool) {
	if !IsPartition(p) || !IsPartition(q) {
		return false, false
	}
	if len(p) > len(q) {
		return false, true
	}
	for r, part := range p {
		if part > q[r] {
			return false, true
		}
	}
	return true, true
}

// CountPartitions returns how many partitions of n cells there are.
func CountPartitions(n int) (int, bool) {
	if !isCellNumber(n) {
		return 0, false
	}
	return countBounded().all(n), true
}

// AllPartitions returns all of them, in order, for n in 0..MaxListedCells.
func AllPartitions(n int) ([][]int, bool) {
	if n < 0 || n > MaxListedCells {
		return nil, false
	}
	return listPartitions(n), true
}

// RankPartition returns the rank of a partition among those with as many cells.
func RankPartition(p []int) (int, bool) {
	if !IsPartition(p) {
		return 0, false
	}
	counts := countBounded()
	rank, left := 0, cellCount(p)
	limit := left
	for _, part := range p {
		rank += counts.above(left, part, limit)
		left -= part
		limit = part
	}
	return rank, true
}

// PartitionWith returns the partition of n cells with a rank. It fails if there is none.
func PartitionWith(n int, rank int) ([]int, bool) {
	if !isCellNumber(n) {
		return nil, false
	}
	counts := countBounded()
	if rank < 0 || rank >= counts.all(n) {
		return nil, false
	}
	return counts.partitionAt(n, rank), true
}

// PartText returns the parts in decimal with + between them, or 0 for none.
func PartText(p []int) (string, bool) {
	if !IsPartition(p) {
		return "", false
	}
	if len(p) == 0 {
		return "0", true
	}
	return joinNumbers(p, "+"), true
}

// ParsePart returns the partition with a PartText. It fails if there is none.
func ParsePart(s string) ([]int, bool) {
	if s == "0" {
		return nil, true
	}
	// The longest text is that of MaxCells parts 1.
	if len(s) >= 2*MaxCells {
		return nil, false
	}
	p, ok := splitNumbers(s, "+")
	if !ok {
		return nil, false
	}
	// Signs and superfluous zeros can be read, too, but no PartText has them.
	if text, ok := PartText(p); !ok || text != s {
		return nil, false
	}
	return p, true
}

// A place is a cell, or a point of the border with so many rows above it and columns left of it; the lower right end of a cell is such a point.
type place struct{ row, column int }

func (at place) up() place    { return place{at.row - 1, at.column} }
func (at place) right() place { return place{at.row, at.column + 1} }
func (at place) content() int { return at.column - at.row }
func (at place) end() place   { return place{at.row + 1, at.column + 1} }

// stepOf returns the step that a letter of a border word stands for, or nil if there is none.
func stepOf(letter byte) func(place) place {
	switch letter {
	case 'U':
		return place.up
	case 'R':
		return place.right
	}
	return nil
}

// letterAt returns the letter behind a point of the border that is not its end.
func letterAt(p []int, point place) byte {
	if point.column == p[point.row-1] {
		return 'U'
	}
	return 'R'
}

func rise(letter byte) int {
	if letter == 'U' {
		return 1
	}
	return 0
}

func hasBorderEnds(w string) bool {
	return w == "" || w[0] == 'R' && w[len(w)-1] == 'U'
}

func sumOver[E any](list []E, amount func(E) int) int {
	sum := 0
	for _, element := range list {
		sum += amount(element)
	}
	return sum
}

func cellCount(p []int) int {
	return sumOver(p, func(part int) int { return part })
}

func isCellNumber(n int) bool {
	return n >= 0 && n <= MaxCells
}

// greatestFirst compares partitions by their order, in which the greatest one is the first.
func greatestFirst(p []int, q []int) int {
	return slices.Compare(q, p)
}

// joinNumbers returns numbers in decimal with a mark between them.
func joinNumbers(numbers []int, mark string) string {
	var words []string
	for _, number := range numbers {
		words = append(words, strconv.Itoa(number))
	}
	return strings.Join(words, mark)
}

// splitNumbers returns the numbers of a text with a mark between them, also if they have signs or superfluous zeros.
func splitNumbers(s string, mark string) ([]int, bool) {
	var numbers []int
	for _, word := range strings.Split(s, mark) {
		number, err := strconv.Atoi(word)
		if err != nil {
			return nil, false
		}
		numbers = append(numbers, number)
	}
	return numbers, true
}

func columnsOf(p []int) []int {
	if len(p) == 0 {
		return nil
	}
	columns := make([]int, p[0])
	for c := range columns {
		columns[c] = partsAbove(p, c)
	}
	return columns
}

// partsAbove returns how many parts are greater than a number.
func partsAbove(p []int, number int) int {
	return sumOver(p, func(part int) int {
		if part > number {
			return 1
		}
		return 0
	})
}

// isCell reports whether p is a partition with the cell r, c.
func isCell(p []int, r int, c int) bool {
	return IsPartition(p) && r >= 0 && r < len(p) && c >= 0 && c < p[r]
}

func hookOf(p []int, columns []int, cell place) int {
	arm := p[cell.row] - cell.column - 1
	leg := columns[cell.column] - cell.row - 1
	return arm + leg + 1
}

// rowsOf returns a number for each cell, row by row.
func rowsOf(p []int, number func(place) int) [][]int {
	rows := make([][]int, len(p))
	for r, part := range p {
		rows[r] = make([]int, part)
		for c := range part {
			rows[r][c] = number(place{r, c})
		}
	}
	return rows
}

// rimOf follows the border from the end of the cell's column to the end of its row, so that its cells are all on the rim.
func rimOf(p []int, cell place) []place {
	at := place{columnsOf(p)[cell.column] - 1, cell.column}
	var rim []place
	for at.row >= cell.row {
		rim = append(rim, at)
		at = stepOf(letterAt(p, at.end()))(at)
	}
	return rim
}

// withoutEmptyRows leaves out rows without cells, which are the last ones.
func withoutEmptyRows(p []int) []int {
	rows := len(p)
	for rows > 0 && p[rows-1] == 0 {
		rows--
	}
	return p[:rows]
}

// A boundedCounts has, at n and k, the number of partitions of n cells with no part greater than k: of those that begin with a part of at most k.
type boundedCounts [MaxCells + 1][MaxCells + 1]int

func countBounded() *boundedCounts {
	var counts boundedCounts
	counts[0][0] = 1
	for n := range MaxCells + 1 {
		for k := 1; k <= MaxCells; k++ {
			counts[n][k] = counts[n][k-1]
			if k <= n {
				counts[n][k] += counts[n-k][k]
			}
		}
	}
	return &counts
}

func (counts *boundedCounts) all(n int) int {
	return counts[n][n]
}

// above returns how many partitions of n cells have a first part that is greater than part and at most limit: so many are in front of those that begin with part.
func (counts *boundedCounts) above(n int, part int, limit int) int {
	return counts[n][limit] - counts[n][part]
}

// partitionAt returns the partition of n cells with a rank that is less than all(n).
func (counts *boundedCounts) partitionAt(n int, rank int) []int {
	var p []int
	limit := n
	for n > 0 {
		part := limit
		for counts.above(n, part-1, limit) <= rank {
			part--
		}
		rank -= counts.above(n, part, limit)
		p = append(p, part)
		n -= part
		limit = part
	}
	return p
}

// listPartitions returns all partitions of n cells, in order, n in 0..MaxCells.
func listPartitions(n int) [][]int {
	counts := countBounded()
	list := make([][]int, counts.all(n))
	for rank := range list {
		list[rank] = counts.partitionAt(n, rank)
	}
	return list
}
