package tests

import (
	"fmt"
	"slices"
	"strings"

	"loop.example/g01136/impl"
)

// The model takes rims away from diagrams, in all ways, and reads quotients from border words.

// A takenRim is a rim hook of the model: its cell, its sign, and what is left without it.
type takenRim struct {
	at   cell
	sign int
	left []int
}

// A rimTable has the rims of a partition by their number of cells, ordered by rows and then by columns.
type rimTable [impl.MaxRunners + 1][]takenRim

var rimTables = map[string]*rimTable{}

func rimTableOf(p []int) *rimTable {
	key := fmt.Sprint(p)
	if table, ok := rimTables[key]; ok {
		return table
	}
	table := &rimTable{}
	cells := draw(p)
	for r, part := range p {
		for c := range part {
			at := cell{r, c}
			size := cells.hook(at)
			if size > impl.MaxRunners {
				continue
			}
			left, _ := read(cells.without(cells.rim(at)))
			table[size] = append(table[size], takenRim{at, evenSign(cells.leg(at)), left})
		}
	}
	rimTables[key] = table
	return table
}

func evenSign(n int) int {
	if n%2 == 0 {
		return 1
	}
	return -1
}

func hookList(p []int) []int {
	cells := draw(p)
	var hooks []int
	for at := range cells {
		hooks = append(hooks, cells.hook(at))
	}
	return hooks
}

func cellsIn(p []int) int {
	return len(draw(p))
}

// A descent is what the runs down to the core have in common, and how many there are; they agree unless differ is set.
type descent struct {
	core               []int
	weight, sign, runs int
	differ             bool
}

var descents = map[string]descent{}

func descentOf(p []int, size int) descent {
	key := fmt.Sprint(size, p)
	if known, ok := descents[key]; ok {
		return known
	}
	all := descent{core: p, sign: 1, runs: 1}
	for k, rim := range rimTableOf(p)[size] {
		one := descentOf(rim.left, size)
		one.weight++
		one.sign *= rim.sign
		if k == 0 {
			all = one
			continue
		}
		all.runs += one.runs
		all.differ = all.differ || one.differ || all.weight != one.weight || all.sign != one.sign || !slices.Equal(all.core, one.core)
	}
	descents[key] = all
	return all
}

// quotientByBorder gives each letter of a border word, behind a multiple of steps up, to the next partition in turn.
func quotientByBorder(p []int, size int) [][]int {
	rows := len(p)
	for rows%size != 0 {
		rows++
	}
	quotient, columns := make([][]int, size), make([]int, size)
	for at, letter := range strings.Repeat("U", rows-len(p)) + border(p) {
		i := at % size
		if letter == 'R' {
			columns[i]++
		} else if columns[i] > 0 {
			quotient[i] = slices.Insert(quotient[i], 0, columns[i])
		}
	}
	return quotient
}

// addedByList returns, for all partitions of so many cells from which a rim can be taken away, by what is left, all of them in order.
func addedByList(cells, size int) map[string][][]int {
	added := map[string][][]int{}
	for _, p := range partitions(cells) {
		for _, rim := range rimTableOf(p)[size] {
			key := fmt.Sprint(rim.left)
			added[key] = append(added[key], p)
		}
	}
	return added
}

// blocksByList returns all partitions of so many cells by their cores, in order.
func blocksByList(cells, size int) map[string][][]int {
	blocks := map[string][][]int{}
	for _, p := range partitions(cells) {
		key := fmt.Sprint(descentOf(p, size).core)
		blocks[key] = append(blocks[key], p)
	}
	return blocks
}

// isCoreOf reports whether no hook is divided by size.
func isCoreOf(p []int, size int) bool {
	return !slices.ContainsFunc(hookList(p), func(hook int) bool { return hook%size == 0 })
}

// quotients returns all lists of so many partitions with so many cells together.
func quotients(number, cells int) [][][]int {
	if number == 0 {
		if cells == 0 {
			return [][][]int{{}}
		}
		return nil
	}
	var list [][][]int
	for first := range cells + 1 {
		for _, p := range partitions(first) {
			for _, rest := range quotients(number-1, cells-first) {
				list = append(list, append([][]int{p}, rest...))
			}
		}
	}
	return list
}

// eachSized calls a check with samples of partitions and all numbers of runners.
func eachSized(check func(p []int, size int)) {
	for _, p := range samples() {
		for size := 2; size <= impl.MaxRunners; size++ {
			check(p, size)
		}
	}
}

// eachPartition calls a check with all partitions there are and all numbers of runners.
func eachPartition(check func(p []int, size int)) {
	for n := 0; n <= impl.MaxCells; n++ {
		for _, p := range partitions(n) {
			for size := 2; size <= impl.MaxRunners; size++ {
				check(p, size)
			}
		}
	}
}
