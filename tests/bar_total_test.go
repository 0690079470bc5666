package tests

import (
	"fmt"
	"math"
	"slices"
	"testing"

	"loop.example/g01136/impl"
)

// Promise 11 for strict partitions and bars.

// strictCalls take one list.
func strictCalls() []call {
	return []call{
		{"IsStrict", func(l [][]int) []any { return results(impl.IsStrict(l[0])) }},
		{"DoubleOf", func(l [][]int) []any { return results(impl.DoubleOf(l[0])) }},
		{"FromDouble", func(l [][]int) []any { return results(impl.FromDouble(l[0])) }},
		{"IsDouble", func(l [][]int) []any { return results(impl.IsDouble(l[0])) }},
		{"BarLengths", func(l [][]int) []any { return results(impl.BarLengths(l[0])) }},
		{"CountShifted", func(l [][]int) []any { return results(impl.CountShifted(l[0])) }},
		{"OddFromStrict", func(l [][]int) []any { return results(impl.OddFromStrict(l[0])) }},
		{"StrictFromOdd", func(l [][]int) []any { return results(impl.StrictFromOdd(l[0])) }},
	}
}

// barCalls take one list and a size.
func barCalls(size int) []call {
	name := func(function string) string { return fmt.Sprint(function, " for ", size) }
	return []call{
		{name("BarsOf"), func(l [][]int) []any { return results(impl.BarsOf(l[0], size)) }},
		{name("BarCore"), func(l [][]int) []any { return results(impl.BarCore(l[0], size)) }},
		{name("BarWeight"), func(l [][]int) []any { return results(impl.BarWeight(l[0], size)) }},
		{name("IsBarCore"), func(l [][]int) []any { return results(impl.IsBarCore(l[0], size)) }},
	}
}

func takeBar(size, k int) call {
	return call{fmt.Sprint("TakeBar for ", size, " at ", k), func(l [][]int) []any { return results(impl.TakeBar(l[0], size, k)) }}
}

func strictNumberCalls(n int) []call {
	return []call{
		{fmt.Sprint("AllStrict ", n), func([][]int) []any { return results(impl.AllStrict(n)) }},
		{fmt.Sprint("CountStrict ", n), func([][]int) []any { return results(impl.CountStrict(n)) }},
	}
}

// barInputs returns lists of all kinds: strict partitions, doubles, odd parts and others.
func barInputs() [][]int {
	lists := oddLists()
	eachStrict(9, func(p []int) {
		double, _ := read(doubleByCells(p))
		lists = append(lists, p, double, halved(p))
	})
	lists = append(lists, []int{5, 4, 3, 2, 1}, []int{15}, []int{16}, []int{6, 4, 3, 2, 1}, []int{7, 6, 5, 4, 3, 2, 1}, []int{16, 8, 4, 2}, []int{9, 8, 7, 6}, ones(29), slices.Repeat([]int{3}, 10))
	for _, number := range extremes() {
		lists = append(lists, []int{5, number}, []int{number, 2, 1}, []int{5, number, 1})
	}
	return lists
}

func TestTotalBarLists(t *testing.T) {
	for _, list := range barInputs() {
		for _, do := range strictCalls() {
			tryCall(t, do, list)
		}
	}
}

func TestTotalBarSizes(t *testing.T) {
	sizes := append(oddSizes(), math.MinInt+3, math.MinInt+5, 1<<32+3, 1<<32+5)
	for _, list := range barInputs() {
		if len(list) > 1000 {
			continue // each call copies the list
		}
		for _, size := range sizes {
			for _, do := range barCalls(size) {
				tryCall(t, do, list)
			}
			tryCall(t, takeBar(size, 0), list)
		}
	}
	for _, size := range barSizes() {
		for _, do := range append(barCalls(size), takeBar(size, 0)) {
			tryCall(t, do, ones(100000))
			tryCall(t, do, upTo(100000))
		}
	}
}

func TestTotalBarIndexes(t *testing.T) {
	for _, list := range barInputs() {
		if len(list) > 1000 {
			continue // each call copies the list
		}
		for _, k := range extremes() {
			for _, size := range []int{3, 5, 4} {
				tryCall(t, takeBar(size, k), list)
			}
		}
	}
}

func TestTotalBarNumbers(t *testing.T) {
	for _, n := range slices.Concat(extremes(), []int{4, 5, 6, 10, 16, 23, 24, 25}) {
		for _, do := range strictNumberCalls(n) {
			tryCall(t, do)
		}
	}
}

// Results of earlier calls may be written to.
func TestTotalBarResultsApart(t *testing.T) {
	p := guarded([]int{7, 2, 1})
	for range 2 {
		list, ok := impl.AllStrict(6)
		wantRows(t, "strict partitions", 6, list, [][]int{{6}, {5, 1}, {4, 2}, {3, 2, 1}}, ok)
		scribble(list, 555)
		bars, ok := impl.BarsOf(p, 3)
		wantRows(t, "bars", p, bars, [][]int{{7}, {2, 1}}, ok)
		scribble(bars, 555)
		left, ok := impl.TakeBar(p, 3, 1)
		wantList(t, "without a bar", p, left, []int{7}, ok)
		scribble(left, 555)
		core, ok := impl.BarCore([]int{4, 1}, 3)
		wantList(t, "bar core", "4 1", core, []int{4, 1}, ok)
		scribble(core, 555)
	}
	if !slices.Equal(whole(p)[:7], []int{7, 2, 1, guard, guard, guard, guard}) {
		t.Error("an argument is changed", whole(p))
	}
	core := guarded([]int{4, 1})
	same, _ := impl.BarCore(core, 3)
	scribble(same, 555)
	if !slices.Equal(whole(core)[:6], []int{4, 1, guard, guard, guard, guard}) {
		t.Error("an argument is shared with its bar core", whole(core))
	}
}
