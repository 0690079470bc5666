package tests

import (
	"fmt"
	"slices"
)

// The model adds drawn cells one by one, takes drawn rims away as the definition says, and lists all permutations.

// A grownPartition is a partition with a cell more in a row.
type grownPartition struct {
	row  int
	made []int
}

var grownLists = map[string][]grownPartition{}

// grownByCells returns all partitions with one cell more, by rows.
func grownByCells(p []int) []grownPartition {
	key := fmt.Sprint(p)
	if list, ok := grownLists[key]; ok {
		return list
	}
	cells := draw(p)
	var list []grownPartition
	for _, at := range cellsToAdd(cells, 1, 0) {
		made, _ := read(cells.with(at))
		list = append(list, grownPartition{at.row, made})
	}
	grownLists[key] = list
	return list
}

// A drawnChain is a chain with its shape.
type drawnChain struct{ rows, shape []int }

var chainLists = [][]drawnChain{{{nil, nil}}}

// chainsOf returns all chains of n cells, in lexicographic order.
func chainsOf(n int) []drawnChain {
	for len(chainLists) <= n {
		var longer []drawnChain
		for _, chain := range chainLists[len(chainLists)-1] {
			for _, next := range grownByCells(chain.shape) {
				longer = append(longer, drawnChain{append(slices.Clone(chain.rows), next.row), next.made})
			}
		}
		chainLists = append(chainLists, longer)
	}
	return chainLists[n]
}

// chainsByShape returns the rows of all chains of n cells by their shapes, in order.
func chainsByShape(n int) map[string][][]int {
	lists := map[string][][]int{}
	for _, chain := range chainsOf(n) {
		key := fmt.Sprint(chain.shape)
		lists[key] = append(lists[key], chain.rows)
	}
	return lists
}

// shapeByCells follows rows, and reports whether they are a chain.
func shapeByCells(rows []int) ([]int, bool) {
	var p []int
	for _, row := range rows {
		list := grownByCells(p)
		at := slices.IndexFunc(list, func(next grownPartition) bool { return next.row == row })
		if at < 0 {
			return nil, false
		}
		p = list[at].made
	}
	return p, true
}

var betweenCounts = map[string]int{}

// betweenByCells adds cells to p in all ways until there are as many as in q.
func betweenByCells(p, q []int) int {
	if sumOf(p) >= sumOf(q) {
		if slices.Equal(p, q) {
			return 1
		}
		return 0
	}
	key := fmt.Sprint(p, q)
	if count, ok := betweenCounts[key]; ok {
		return count
	}
	count := 0
	for _, next := range grownByCells(p) {
		count += betweenByCells(next.made, q)
	}
	betweenCounts[key] = count
	return count
}

var chainCounts = map[string]int{"[]": 1}

// chainsDown takes the cells of a partition away in all ways.
func chainsDown(p []int) int {
	key := fmt.Sprint(p)
	if count, ok := chainCounts[key]; ok {
		return count
	}
	cells, count := draw(p), 0
	for _, at := range cellsToTake(cells, 1, 0) {
		less, _ := read(cells.without([]cell{at}))
		count += chainsDown(less)
	}
	chainCounts[key] = count
	return count
}

var drawnRims = map[string]map[int][]takenRim{}

// rimsOfAnySize returns the rims of a partition by their number of cells.
func rimsOfAnySize(p []int) map[int][]takenRim {
	key := fmt.Sprint(p)
	if rims, ok := drawnRims[key]; ok {
		return rims
	}
	cells := draw(p)
	rims := map[int][]takenRim{}
	for at := range cells {
		rim := cells.rim(at)
		left, _ := read(cells.without(rim))
		rims[len(rim)] = append(rims[len(rim)], takenRim{at, evenSign(cells.leg(at)), left})
	}
	drawnRims[key] = rims
	return rims
}

var drawnCharacters = map[string]int{}

// characterByRims follows the definition, with the cycles in the order in which they are given.
func characterByRims(p, cycles []int) int {
	if len(cycles) == 0 {
		return 1
	}
	key := fmt.Sprint(p, cycles)
	if sum, ok := drawnCharacters[key]; ok {
		return sum
	}
	sum := 0
	for _, rim := range rimsOfAnySize(p)[cycles[0]] {
		sum += rim.sign * characterByRims(rim.left, cycles[1:])
	}
	drawnCharacters[key] = sum
	return sum
}

// waysToFill returns in how many ways cycles can be put in boxes so that each is filled.
func waysToFill(boxes, cycles []int) int {
	if len(cycles) == 0 {
		if slices.ContainsFunc(boxes, func(room int) bool { return room != 0 }) {
			return 0
		}
		return 1
	}
	ways := 0
	for i, room := range boxes {
		if room >= cycles[0] {
			less := slices.Clone(boxes)
			less[i] -= cycles[0]
			ways += waysToFill(less, cycles[1:])
		}
	}
	return ways
}

// characterByBoxes is a sum of such ways, in which no order of the cycles counts, over all permutations of the rows: the determinant of Jacobi and Trudi.
func characterByBoxes(p, cycles []int) int {
	sum := 0
	for _, order := range permutations(len(p)) {
		boxes := make([]int, len(p))
		for i, to := range order {
			boxes[i] = p[i] - i + to
		}
		if !slices.ContainsFunc(boxes, func(room int) bool { return room < 0 }) {
			sum += evenSign(inversions(order)) * waysToFill(boxes, cycles)
		}
	}
	return sum
}

var permutationLists = [][][]int{{{}}}

// permutations returns all orders of 0, 1, .., n - 1.
func permutations(n int) [][]int {
	for len(permutationLists) <= n {
		last := len(permutationLists) - 1
		var longer [][]int
		for _, order := range permutationLists[last] {
			for at := range last + 1 {
				longer = append(longer, slices.Insert(slices.Clone(order), at, last))
			}
		}
		permutationLists = append(permutationLists, longer)
	}
	return permutationLists[n]
}

func inversions(order []int) int {
	count := 0
	for i, number := range order {
		for _, later := range order[i+1:] {
			if later < number {
				count++
			}
		}
	}
	return count
}

// classOfPermutation returns the lengths of the cycles of a permutation as a class.
func classOfPermutation(order []int) []int {
	seen := make([]bool, len(order))
	var class []int
	for start := range order {
		length := 0
		for at := start; !seen[at]; at = order[at] {
			seen[at] = true
			length++
		}
		if length > 0 {
			class = append(class, length)
		}
	}
	return falling(class)
}

func falling(numbers []int) []int {
	list := slices.Clone(numbers)
	slices.Sort(list)
	slices.Reverse(list)
	return list
}

func rising(numbers []int) []int {
	list := slices.Clone(numbers)
	slices.Sort(list)
	return list
}

// permutationWith returns a permutation with cycles of these lengths.
func permutationWith(cycles []int) []int {
	var order []int
	for _, cycle := range cycles {
		start := len(order)
		for k := range cycle {
			order = append(order, start+(k+1)%cycle)
		}
	}
	return order
}

// commuting returns how many permutations can be exchanged with one.
func commuting(order []int) int {
	count := 0
	for _, other := range permutations(len(order)) {
		same := true
		for at := range order {
			same = same && order[other[at]] == other[order[at]]
		}
		if same {
			count++
		}
	}
	return count
}

// cyclesOf returns all classes of n in all orders of their cycles.
func cyclesOf(n int) [][]int {
	if n == 0 {
		return [][]int{{}}
	}
	var lists [][]int
	for first := 1; first <= n; first++ {
		for _, rest := range cyclesOf(n - first) {
			lists = append(lists, append([]int{first}, rest...))
		}
	}
	return lists
}

func product(n int) int {
	all := 1
	for k := range n {
		all *= k + 1
	}
	return all
}

// weightByRule multiplies the cycles, and the factorial of how often each number is there.
func weightByRule(cycles []int) int {
	weight := 1
	for number := 1; number <= 30; number++ {
		often := 0
		for _, cycle := range cycles {
			if cycle == number {
				often++
				weight *= number
			}
		}
		weight *= product(often)
	}
	return weight
}
