package tests

import (
	"fmt"
	"slices"

	"loop.example/g01136/impl"
)

// The model lists cores for both sizes by the hooks of all drawn partitions, strikes sums out to find gaps, and counts walks as they are defined.

// A pair has two sizes.
type pair struct{ a, b int }

// bothSizes returns all sizes there are, in either order.
func bothSizes() []pair {
	list := []pair{{2, 3}, {2, 5}, {2, 7}, {3, 4}, {3, 5}, {3, 7}, {4, 5}, {4, 7}}
	for _, of := range slices.Clone(list) {
		list = append(list, pair{of.b, of.a})
	}
	return list
}

// gapsBySums returns the numbers up to 99 that are no sums: the greatest gap of two sizes is 17.
func gapsBySums(of pair) []int {
	sums := map[int]bool{}
	for i := range 100 {
		for j := range 100 {
			sums[of.a*i+of.b*j] = true
		}
	}
	var gaps []int
	for number := 1; number < 100; number++ {
		if !sums[number] {
			gaps = append(gaps, number)
		}
	}
	return gaps
}

func firstHooksByCells(p []int) []int {
	cells := draw(p)
	var hooks []int
	for row := range p {
		hooks = append(hooks, cells.hook(cell{len(p) - 1 - row, 0}))
	}
	return hooks
}

// areClosedBySets follows the definition of closed gaps, for a list that increases.
func areClosedBySets(list []int, of pair, gaps []int) bool {
	there := map[int]bool{}
	for _, number := range list {
		there[number] = true
	}
	last := 0
	for _, number := range list {
		if number <= last || !slices.Contains(gaps, number) {
			return false
		}
		last = number
		for _, size := range []int{of.a, of.b} {
			if number-size > 0 && !there[number-size] {
				return false
			}
		}
	}
	return true
}

// hasKeyOf reports whether a list is one of those of a table.
func hasKeyOf(table map[string]bool, list []int) bool {
	return table[fmt.Sprint(list)]
}

// keysOf returns the table of some lists.
func keysOf(lists [][]int) map[string]bool {
	table := map[string]bool{}
	for _, list := range lists {
		table[fmt.Sprint(list)] = true
	}
	return table
}

var bothLists = map[pair][][]int{}

// bothByList returns all partitions without a hook that one of both sizes divides, in order.
func bothByList(of pair) [][]int {
	if list, ok := bothLists[of]; ok {
		return list
	}
	var list [][]int
	for n := range impl.MaxCells + 1 {
		second := keysOf(coresByList(of.b, n))
		for _, p := range coresByList(of.a, n) {
			if hasKeyOf(second, p) {
				list = append(list, p)
			}
		}
	}
	bothLists[of] = list
	return list
}

// eachBoth calls a check with all cores for both sizes, and their ranks.
func eachBoth(check func(p []int, of pair, rank int)) {
	for _, of := range bothSizes() {
		for rank, p := range bothByList(of) {
			check(p, of, rank)
		}
	}
}

// eachOther calls a check with partitions that are no cores for both sizes: all of few cells, and some of many.
func eachOther(check func(p []int, of pair)) {
	for _, of := range bothSizes() {
		cores := keysOf(bothByList(of))
		for _, p := range samples() {
			if !hasKeyOf(cores, p) {
				check(p, of)
			}
		}
	}
}

func walkByCount(p []int, of pair) []int {
	hooks := firstHooksByCells(p)
	var walk []int
	for i := range of.a - 1 {
		count := 0
		for x := 1; x < 100; x++ {
			number := of.a*of.b - of.a*x - of.b*(i+1)
			if number > 0 && !slices.Contains(hooks, number) {
				count++
			}
		}
		walk = append(walk, count)
	}
	return walk
}

// mostWalk returns the greatest numbers of walks.
func mostWalk(of pair) []int {
	var most []int
	for i := range of.a - 1 {
		number := 0
		for of.a*(number+1) <= of.b*(of.a-1-i) {
			number++
		}
		most = append(most, number)
	}
	return most
}

func isWalkByRule(list []int, of pair) bool {
	most := mostWalk(of)
	if len(list) != len(most) {
		return false
	}
	for i, number := range list {
		if number < 0 || number > most[i] || i > 0 && number > list[i-1] {
			return false
		}
	}
	return true
}

// subsets returns all lists of some of the numbers, in their order.
func subsets(numbers []int) [][]int {
	lists := [][]int{{}}
	for _, number := range numbers {
		for _, list := range slices.Clone(lists) {
			lists = append(lists, append(slices.Clone(list), number))
		}
	}
	return lists
}
