package tests

import (
	"slices"

	"loop.example/g01136/impl"
)

// The model lays out beads at numbers less than 0, too, adds and takes away drawn cells, and multiplies the series.

// isBeadOf reports whether a number is p[r] - r - 1 for some row r.
func isBeadOf(p []int, number int) bool {
	for r, part := range p {
		if number == part-r-1 {
			return true
		}
	}
	return number < -len(p)
}

// mod returns the remainder in 0..size - 1.
func mod(number, size int) int {
	for number < 0 {
		number += size
	}
	return number % size
}

func levelsByBeads(p []int, size int) []int {
	levels := make([]int, size)
	for number := -60; number < 60; number++ {
		isBead := isBeadOf(p, number)
		if number >= 0 && isBead {
			levels[mod(number, size)]++
		}
		if number < 0 && !isBead {
			levels[mod(number, size)]--
		}
	}
	return levels
}

// coreByBeads puts beads at all numbers size j + i with j less than the level of i, and counts the gaps below each; it may have any number of cells.
func coreByBeads(levels []int) []int {
	var core []int
	gaps := 0
	for j := -12; j < 12; j++ {
		for _, level := range levels {
			if j >= level {
				gaps++
			} else if gaps > 0 {
				core = append([]int{gaps}, core...)
			}
		}
	}
	return core
}

func sumOf(list []int) int {
	sum := 0
	for _, number := range list {
		sum += number
	}
	return sum
}

// levelsWithin returns all lists of so many numbers in -most..most with the sum 0, in lexicographic order.
func levelsWithin(size, most int) [][]int {
	lists := [][]int{{}}
	for range size {
		var longer [][]int
		for _, list := range lists {
			for level := -most; level <= most; level++ {
				longer = append(longer, append(slices.Clone(list), level))
			}
		}
		lists = longer
	}
	return slices.DeleteFunc(lists, func(list []int) bool { return sumOf(list) != 0 })
}

// eachLevels calls a check with all levels of small size, for each number of runners.
func eachLevels(check func(levels []int)) {
	for size := 2; size <= impl.MaxRunners; size++ {
		most := 2
		if size <= 4 {
			most = 4
		}
		for _, levels := range levelsWithin(size, most) {
			check(levels)
		}
	}
}

var coreLists = map[int][][][]int{}

// coresByList returns all partitions of n cells without a hook that size divides, in order.
func coresByList(size, n int) [][]int {
	if lists, ok := coreLists[size]; ok {
		return lists[n]
	}
	for cells := range impl.MaxCells + 1 {
		for s := 2; s <= impl.MaxBoth; s++ {
			coreLists[s] = append(coreLists[s], nil)
		}
		for _, p := range partitions(cells) {
			hooks := hookList(p)
			for s := 2; s <= impl.MaxBoth; s++ {
				if !slices.ContainsFunc(hooks, func(hook int) bool { return hook%s == 0 }) {
					coreLists[s][cells] = append(coreLists[s][cells], p)
				}
			}
		}
	}
	return coreLists[size][n]
}

// eachCore calls a check with all cores there are.
func eachCore(check func(p []int, size int)) {
	for size := 2; size <= impl.MaxRunners; size++ {
		for n := range impl.MaxCells + 1 {
			for _, p := range coresByList(size, n) {
				check(p, size)
			}
		}
	}
}

// seriesByProduct multiplies all factors up to q^n.
func seriesByProduct(size, n int) []int {
	series := make([]int, n+1)
	series[0] = 1
	for k := 1; k <= n; k++ {
		for at := k; at <= n; at++ {
			series[at] += series[at-k]
		}
		for range size {
			for at := n; at >= size*k; at-- {
				series[at] -= series[at-size*k]
			}
		}
	}
	return series
}

func residuesByCells(p []int, size int) []int {
	counts := make([]int, size)
	for at := range draw(p) {
		counts[mod(at.column-at.row, size)]++
	}
	return counts
}

// cellsToAdd returns the cells of a residue each of which can be added to a diagram.
func cellsToAdd(cells diagram, size, i int) []cell {
	var list []cell
	for row := range len(cells) + 1 {
		column := cells.count(func(at cell) bool { return at.row == row })
		at := cell{row, column}
		if _, fits := read(cells.with(at)); fits && mod(column-row, size) == i {
			list = append(list, at)
		}
	}
	return list
}

// cellsToTake returns the cells of a residue each of which can be taken away from a diagram.
func cellsToTake(cells diagram, size, i int) []cell {
	var list []cell
	for at := range cells {
		if _, fits := read(cells.without([]cell{at})); fits && mod(at.column-at.row, size) == i {
			list = append(list, at)
		}
	}
	return list
}

// reflectedByCells returns the reflection of a core, with any number of cells, and how many cells it adds.
func reflectedByCells(p []int, size, i int) ([]int, int) {
	cells := draw(p)
	added := cellsToAdd(cells, size, i)
	for _, at := range added {
		cells = cells.with(at)
	}
	if len(added) > 0 {
		core, _ := read(cells)
		return core, len(added)
	}
	taken := cellsToTake(cells, size, i)
	core, _ := read(cells.without(taken))
	return core, -len(taken)
}

// wordByCells takes cells away at the least residue that does, until there are none.
func wordByCells(p []int, size int) []int {
	var word []int
	for i := 0; len(p) > 0; i++ {
		less, added := reflectedByCells(p, size, i)
		if added < 0 {
			word = append(word, i)
			p, i = less, -1
		}
	}
	return word
}

// madeByCells follows a word, and reports whether no step has too many cells.
func madeByCells(size int, word []int) ([]int, bool) {
	var core []int
	for _, i := range word {
		core, _ = reflectedByCells(core, size, i)
		if sumOf(core) > impl.MaxCells {
			return nil, false
		}
	}
	return core, true
}
