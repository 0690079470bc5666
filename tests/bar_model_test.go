package tests

import (
	"fmt"
	"slices"

	"loop.example/g01136/impl"
)

// The model keeps strict partitions as sets of parts, takes bars away in all ways, and draws doubles as two shifted diagrams.

func barSizes() []int {
	return []int{3, 5}
}

// isStrictBySet reports whether no part comes twice.
func isStrictBySet(p []int) bool {
	return len(setOf(p)) == len(p)
}

func setOf(p []int) map[int]bool {
	set := map[int]bool{}
	for _, part := range p {
		set[part] = true
	}
	return set
}

func listOf(set map[int]bool) []int {
	var p []int
	for part := 30; part >= 1; part-- {
		if set[part] {
			p = append(p, part)
		}
	}
	return p
}

// strictPartitions returns all strict partitions of n cells, the greatest one first.
func strictPartitions(n int) [][]int {
	return slices.DeleteFunc(slices.Clone(partitions(n)), func(p []int) bool { return !isStrictBySet(p) })
}

// eachStrict calls a check with all strict partitions of at most so many cells.
func eachStrict(most int, check func(p []int)) {
	for n := 0; n <= most; n++ {
		for _, p := range strictPartitions(n) {
			check(p)
		}
	}
}

// A takenBar has the parts of a bar that change, and what is left without it.
type takenBar struct{ parts, left []int }

// barsBySets returns all bars of a strict partition, in order.
func barsBySets(p []int, size int) []takenBar {
	set := setOf(p)
	var bars []takenBar
	take := func(to int, parts ...int) {
		left := setOf(p)
		for _, part := range parts {
			delete(left, part)
		}
		left[to] = true
		bars = append(bars, takenBar{parts, listOf(left)})
	}
	for x := 30; x >= 1; x-- {
		if !set[x] {
			continue
		}
		if x == size || x > size && !set[x-size] {
			take(x-size, x)
		}
		for y := x - 1; y >= 1; y-- {
			if set[y] && x+y == size {
				take(0, x, y)
			}
		}
	}
	return bars
}

// A barDescent is what the ways down to the bar core have in common, and how many there are; they agree unless differ is set.
type barDescent struct {
	core         []int
	weight, ways int
	differ       bool
}

var barDescents = map[string]barDescent{}

func barDescentOf(p []int, size int) barDescent {
	key := fmt.Sprint(size, p)
	if known, ok := barDescents[key]; ok {
		return known
	}
	all := barDescent{core: p, ways: 1}
	for k, bar := range barsBySets(p, size) {
		one := barDescentOf(bar.left, size)
		one.weight++
		if k == 0 {
			all = one
			continue
		}
		all.ways += one.ways
		all.differ = all.differ || one.differ || all.weight != one.weight || !slices.Equal(all.core, one.core)
	}
	barDescents[key] = all
	return all
}

// doubleByCells draws the shifted diagram behind the diagonal and, turned, on and below it.
func doubleByCells(p []int) diagram {
	cells := diagram{}
	for i, part := range p {
		for k := range part {
			cells[cell{i, i + 1 + k}] = true
			cells[cell{i + k, i}] = true
		}
	}
	return cells
}

// doublesByList returns the strict partitions with doubles of so many cells, by these.
func doublesByList(cells int) map[string][]int {
	doubles := map[string][]int{}
	if cells%2 == 0 {
		for _, p := range strictPartitions(cells / 2) {
			q, _ := read(doubleByCells(p))
			doubles[fmt.Sprint(q)] = p
		}
	}
	return doubles
}

// barLengthsByDouble returns the hooks of the double behind its diagonal, row by row.
func barLengthsByDouble(p []int) [][]int {
	cells := doubleByCells(p)
	rows := make([][]int, len(p))
	for i, part := range p {
		for k := range part {
			rows[i] = append(rows[i], cells.hook(cell{i, i + 1 + k}))
		}
	}
	return rows
}

// barLengthsByBars returns all lengths for which there is a bar with a part and, if it is two parts, a later one.
func barLengthsByBars(p []int) [][]int {
	rows := make([][]int, len(p))
	for length := 2 * impl.MaxCells; length >= 1; length-- {
		for _, bar := range barsBySets(p, length) {
			i := slices.Index(p, bar.parts[0])
			rows[i] = append(rows[i], length)
		}
	}
	return rows
}

var shiftedCounts = map[string]int{"[]": 1}

// shiftedDown takes the cells of a strict partition away in all ways.
func shiftedDown(p []int) int {
	key := fmt.Sprint(p)
	if count, ok := shiftedCounts[key]; ok {
		return count
	}
	count := 0
	for _, bar := range barsBySets(p, 1) {
		count += shiftedDown(bar.left)
	}
	shiftedCounts[key] = count
	return count
}

// halved splits even parts into halves until there are none.
func halved(p []int) []int {
	for i, part := range p {
		if part%2 == 0 {
			return halved(append(slices.Delete(slices.Clone(p), i, i+1), part/2, part/2))
		}
	}
	return falling(p)
}

// joined makes one part of two equal ones until there are none.
func joined(p []int) []int {
	list := falling(p)
	for i := 1; i < len(list); i++ {
		if list[i] == list[i-1] {
			sum := 2 * list[i]
			return joined(append(slices.Delete(list, i-1, i+1), sum))
		}
	}
	return list
}

func areOdd(p []int) bool {
	return !slices.ContainsFunc(p, func(part int) bool { return part%2 == 0 })
}
