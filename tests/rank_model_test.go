package tests

import "slices"

// The model counts partitions by the number of their parts, moves cells to make pairs, and knows ranks and cranks by hooks, by counted parts and by series.

// countsByParts returns a table with the number of partitions of n with k parts at n and k, for both up to most.
func countsByParts(most int) [][]int {
	table := make([][]int, most+1)
	for n := range table {
		table[n] = make([]int, most+1)
		for k := 1; k <= n; k++ {
			// The last part is 1, or each part can be 1 less.
			table[n][k] = table[n-1][k-1] + table[n-k][k]
		}
		if n == 0 {
			table[0][0] = 1
		}
	}
	return table
}

// allByParts returns how many partitions of n there are.
func allByParts(table [][]int, n int) int {
	return sumOf(table[n])
}

// differentByParts returns how many of them have different parts: with k parts, less 0, 1, .., k - 1 from the last one on.
func differentByParts(table [][]int, n int) int {
	count := 0
	for k := 0; k*(k-1)/2 <= n; k++ {
		count += table[n-k*(k-1)/2][k]
	}
	return count
}

// oddByParts returns how many of them have odd parts alone: k parts 2 a - 1 are k parts a of half as many cells and half of k.
func oddByParts(table [][]int, n int) int {
	count := 0
	for k := n % 2; k <= n; k += 2 {
		count += table[(n+k)/2][k]
	}
	return count
}

// pentagons returns the pentagonal numbers of k and of -k, as sums of 1, 4, 7, .. and of 2, 5, 8, ...
func pentagons(k int) (int, int) {
	up, down := 0, 0
	for j := range k {
		up += 1 + 3*j
		down += 2 + 3*j
	}
	return up, down
}

// signByPentagons returns 1 or -1 for pentagonal numbers of even and odd k and of -k, and 0 for others.
func signByPentagons(n int) int {
	for k := 0; k <= n; k++ {
		if up, down := pentagons(k); n == up || n == down {
			return evenSign(k)
		}
	}
	return 0
}

// lastRow returns the cells of the last row.
func (cells diagram) lastRow() []cell {
	var row []cell
	for at := range cells {
		if !cells[cell{at.row + 1, 0}] {
			row = append(row, at)
		}
	}
	return row
}

// slope returns the cells at the ends of rows that are on one line from the end of the first row to the lower left.
func (cells diagram) slope() []cell {
	at := cell{0, 0}
	for cells[cell{0, at.column + 1}] {
		at.column++
	}
	var line []cell
	for ; cells[at]; at = (cell{at.row + 1, at.column - 1}) {
		line = append(line, at)
	}
	return line
}

// pairByCells moves the cells of the last row to the ends of the first rows, or those of the slope to a new last row.
func pairByCells(p []int) ([]int, bool) {
	cells := draw(p)
	row, slope := cells.lastRow(), cells.slope()
	moved := cells.without(slope)
	if len(row) <= len(slope) {
		moved = cells.without(row)
	}
	for i := range min(len(row), len(slope)) {
		if len(row) <= len(slope) {
			moved[cell{i, p[i]}] = true
		} else {
			moved[cell{len(p), i}] = true
		}
	}
	q, fits := read(moved)
	return q, fits && isStrictBySet(q) && len(moved) == len(cells) && len(p) > 0
}

// noPairs returns the partitions of n for which no pair can be made: k parts from 2 k - 1 or from 2 k on, each 1 less than the one before.
func noPairs(n int) [][]int {
	if n == 0 {
		return [][]int{{}}
	}
	for k := 1; k <= n; k++ {
		up, down := pentagons(k)
		if n == up {
			return [][]int{fallingFrom(2*k-1, k)}
		}
		if n == down {
			return [][]int{fallingFrom(2*k, k)}
		}
	}
	return nil
}

// squareByCells returns the side of the greatest square of cells.
func squareByCells(p []int) int {
	cells := draw(p)
	side := 30
	for side > 0 && cells.count(func(at cell) bool { return at.row < side && at.column < side }) < side*side {
		side--
	}
	return side
}

func rankByHook(p []int) int {
	cells := draw(p)
	return cells.arm(cell{}) - cells.leg(cell{})
}

// rankByCounts takes 1 away for each part, so that lists of many partitions need no cells.
func rankByCounts(p []int) int {
	rank := slices.Max(p)
	for range p {
		rank--
	}
	return rank
}

func crankByCounts(p []int) int {
	counts := map[int]int{}
	for _, part := range p {
		counts[part]++
	}
	if counts[1] == 0 {
		return slices.Max(p)
	}
	crank := -counts[1]
	for part, count := range counts {
		if part > counts[1] {
			crank += count
		}
	}
	return crank
}

// remaindersByList returns how many partitions of n have a number with each remainder.
func remaindersByList(n, m int, number func([]int) int) []int {
	counts := make([]int, m)
	for _, p := range partitions(n) {
		counts[mod(number(p), m)]++
	}
	return counts
}

// ranksBySeries returns how many partitions of n have a rank, by the series of all ranks with pentagonal steps.
func ranksBySeries(table [][]int, n, r int) int {
	return bySeries(table, n, r, func(k int) int { return k * (3*k - 1) / 2 })
}

// cranksBySeries returns how many partitions of n, at least 2, have a crank, by the series of all cranks with triangular steps.
func cranksBySeries(table [][]int, n, r int) int {
	return bySeries(table, n, r, func(k int) int { return k * (k - 1) / 2 })
}

func bySeries(table [][]int, n, r int, step func(k int) int) int {
	at := func(left int) int {
		if left < 0 {
			return 0
		}
		return allByParts(table, left)
	}
	count := 0
	for k := 1; k <= n+1; k++ {
		left := n - step(k) - k*max(r, -r)
		count -= evenSign(k) * (at(left) - at(left-k))
	}
	return count
}
