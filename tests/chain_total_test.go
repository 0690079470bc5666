package tests

import (
	"fmt"
	"math"
	"slices"
	"testing"

	"loop.example/g01136/impl"
)

// Promise 11 for chains and characters.

// chainCalls take one list.
func chainCalls() []call {
	return []call{
		{"CountChains", func(l [][]int) []any { return results(impl.CountChains(l[0])) }},
		{"IsChain", func(l [][]int) []any { return results(impl.IsChain(l[0])) }},
		{"ShapeOf", func(l [][]int) []any { return results(impl.ShapeOf(l[0])) }},
		{"RankChain", func(l [][]int) []any { return results(impl.RankChain(l[0])) }},
		{"CharacterRow", func(l [][]int) []any { return results(impl.CharacterRow(l[0])) }},
		{"ClassSize", func(l [][]int) []any { return results(impl.ClassSize(l[0])) }},
		{"ClassWeight", func(l [][]int) []any { return results(impl.ClassWeight(l[0])) }},
		{"SignOfClass", func(l [][]int) []any { return results(impl.SignOfClass(l[0])) }},
	}
}

// chainPairCalls take two lists.
func chainPairCalls() []call {
	return []call{
		{"CountBetween", func(l [][]int) []any { return results(impl.CountBetween(l[0], l[1])) }},
		{"CharacterOf", func(l [][]int) []any { return results(impl.CharacterOf(l[0], l[1])) }},
		{"RowProduct", func(l [][]int) []any { return results(impl.RowProduct(l[0], l[1])) }},
		{"ColumnProduct", func(l [][]int) []any { return results(impl.ColumnProduct(l[0], l[1])) }},
	}
}

func chainNumberCalls(n int) []call {
	return []call{
		{fmt.Sprint("SquaresOf ", n), func([][]int) []any { return results(impl.SquaresOf(n)) }},
		{fmt.Sprint("CharacterTable ", n), func([][]int) []any { return results(impl.CharacterTable(n)) }},
	}
}

func chainWith(rank int) call {
	return call{fmt.Sprint("ChainWith ", rank), func(l [][]int) []any { return results(impl.ChainWith(l[0], rank)) }}
}

// chainInputs returns lists of all kinds: partitions, chains, cycles and others.
func chainInputs() [][]int {
	lists := append(oddLists(), notCycles()...)
	for n := range 6 {
		lists = append(lists, cyclesOf(n)...)
		for _, chain := range chainsOf(n) {
			lists = append(lists, chain.rows)
		}
	}
	lists = append(lists, []int{8}, ones(8), []int{3, 3, 2}, []int{9}, []int{3, 3, 3}, []int{12}, ones(12), []int{5, 3, 2, 1, 1}, []int{1, 2, 4, 5}, []int{13}, []int{5, 4, 3, 1}, []int{20}, []int{21})
	lists = append(lists, make([]int, 12), make([]int, 13), upTo(12), upTo(13), []int{99}, []int{100}, []int{0, 99}, []int{0, 100}, make([]int, 100000))
	for _, number := range extremes() {
		lists = append(lists, []int{0, number}, []int{0, 0, number, 0}, []int{1, number}, []int{number, 2, 1})
	}
	return lists
}

func TestTotalChainLists(t *testing.T) {
	for _, list := range chainInputs() {
		for _, do := range chainCalls() {
			tryCall(t, do, list)
		}
	}
}

func TestTotalChainPairs(t *testing.T) {
	others := [][]int{{}, {1}, {2, 1}, {1, 2}, {3, 2, 1}, {8}, ones(8), {5, 3, 2, 1, 1}, {12}, ones(12), {13}, {30}, {0}, {-1}, {math.MaxInt, math.MinInt}, {math.MaxInt, math.MaxInt, 3}, ones(100000)}
	for _, list := range chainInputs() {
		for _, do := range chainPairCalls() {
			for _, other := range append(others, list) {
				if len(list) > 1000 && len(other) > 1000 {
					continue // each call copies both
				}
				tryCall(t, do, list, other)
				tryCall(t, do, other, list)
			}
		}
	}
}

func TestTotalChainRanks(t *testing.T) {
	for _, list := range chainInputs() {
		if len(list) > 1000 {
			continue // each call copies the list
		}
		for _, rank := range extremes() {
			tryCall(t, chainWith(rank), list)
		}
	}
	tryCall(t, chainWith(0), ones(100000))
	tryCall(t, chainWith(7699), []int{5, 3, 2, 1, 1})
	tryCall(t, chainWith(7700), []int{5, 3, 2, 1, 1})
}

func TestTotalChainNumbers(t *testing.T) {
	for _, n := range slices.Concat(extremes(), []int{4, 5, 6, 8, 9, 12, 13}) {
		for _, do := range chainNumberCalls(n) {
			tryCall(t, do)
		}
	}
}

// One list may be both arguments, and results of earlier calls may be written to.
func TestTotalChainOneListTwice(t *testing.T) {
	p := guarded([]int{2, 1})
	number, ok := impl.CountBetween(p, p)
	wantValue(t, "ways from itself", p, number, 1, ok)
	number, ok = impl.CharacterOf(p, p)
	wantValue(t, "character at itself", p, number, 0, ok)
	number, ok = impl.RowProduct(p, p)
	wantValue(t, "product with its own row", p, number, 6, ok)
	number, ok = impl.ColumnProduct(p, p)
	wantValue(t, "product with its own column", p, number, 2, ok)
	if !slices.Equal(whole(p)[:6], []int{2, 1, guard, guard, guard, guard}) {
		t.Error("an argument is changed", whole(p))
	}
	table, _ := impl.CharacterTable(3)
	for _, row := range table {
		scribble(row, 555)
	}
	table, ok = impl.CharacterTable(3)
	wantRows(t, "table", 3, table, [][]int{{1, 1, 1}, {-1, 0, 2}, {1, -1, 1}}, ok)
	chain, _ := impl.ChainWith(p, 1)
	scribble(chain, 555)
	chain, ok = impl.ChainWith(p, 1)
	wantList(t, "chain with rank 1", p, chain, []int{0, 1, 0}, ok)
}
