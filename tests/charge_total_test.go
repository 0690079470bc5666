package tests

import (
	"fmt"
	"slices"
	"testing"

	"loop.example/g01136/impl"
)

// Promise 11 for levels and counted cores.

func levelCalls() []call {
	return []call{
		{"IsLevels", func(l [][]int) []any { return []any{impl.IsLevels(l[0])} }},
		{"SizeOfLevels", func(l [][]int) []any { return results(impl.SizeOfLevels(l[0])) }},
		{"CoreOfLevels", func(l [][]int) []any { return results(impl.CoreOfLevels(l[0])) }},
		{"LevelsFromCounts", func(l [][]int) []any { return results(impl.LevelsFromCounts(l[0])) }},
		{"TurnLevels", func(l [][]int) []any { return results(impl.TurnLevels(l[0])) }},
	}
}

func chargeCalls(size int) []call {
	name := func(function string) string { return fmt.Sprint(function, " for ", size) }
	return []call{
		{name("LevelsOf"), func(l [][]int) []any { return results(impl.LevelsOf(l[0], size)) }},
		{name("ResidueCounts"), func(l [][]int) []any { return results(impl.ResidueCounts(l[0], size)) }},
		{name("CoreWord"), func(l [][]int) []any { return results(impl.CoreWord(l[0], size)) }},
		{name("CoreByWord"), func(l [][]int) []any { return results(impl.CoreByWord(size, l[0])) }},
		{name("ReflectLevels at the number"), func(l [][]int) []any { return results(impl.ReflectLevels(l[0], size)) }},
	}
}

func reflectCoreAt(size, i int) call {
	return call{fmt.Sprint("ReflectCore for ", size, " at ", i), func(l [][]int) []any { return results(impl.ReflectCore(l[0], size, i)) }}
}

func chargeNumberCalls(size, n int) []call {
	name := func(function string) string { return fmt.Sprint(function, " for ", size, " and ", n) }
	return []call{
		{name("LevelsWith"), func([][]int) []any { return results(impl.LevelsWith(size, n)) }},
		{name("CoresWith"), func([][]int) []any { return results(impl.CoresWith(size, n)) }},
		{name("CountCores"), func([][]int) []any { return results(impl.CountCores(size, n)) }},
		{name("CoresBySeries"), func([][]int) []any { return results(impl.CoresBySeries(size, n)) }},
	}
}

// chargeLists returns lists of all kinds: partitions, levels, counts, words and others.
func chargeLists() [][]int {
	lists := append(oddLists(), notLevels()...)
	lists = append(lists, []int{-1, 1}, []int{10, -10}, []int{-10, 10}, []int{0, -10, 10}, []int{-10, -10, -10, 10, 10, 10}, []int{30, 20}, []int{30, 30, 30})
	lists = append(lists, []int{3, 1}, []int{3, 1, 1}, []int{7, 6, 5, 4, 3, 2, 1}, stairWord(7), stairWord(8), stairWord(40), make([]int, 40), make([]int, 41))
	for size := 2; size <= impl.MaxRunners; size++ {
		lists = append(lists, levelsWithin(size, 1)...)
	}
	for _, number := range extremes() {
		lists = append(lists, []int{number, -number}, []int{0, number, -number}, []int{0, 1, 0, number})
	}
	return lists
}

func TestTotalChargeLevels(t *testing.T) {
	for _, list := range chargeLists() {
		for _, do := range levelCalls() {
			tryCall(t, do, list)
		}
	}
}

func TestTotalChargeLists(t *testing.T) {
	for _, list := range chargeLists() {
		for _, size := range oddSizes() {
			for _, do := range chargeCalls(size) {
				tryCall(t, do, list)
			}
		}
	}
}

func TestTotalChargeReflectedCores(t *testing.T) {
	for _, list := range chargeLists() {
		if len(list) > 1000 {
			continue // each call copies the list
		}
		for _, size := range edgeRunners() {
			for _, i := range append(extremes(), 4, 5, 6) {
				tryCall(t, reflectCoreAt(size, i), list)
			}
		}
	}
	tryCall(t, reflectCoreAt(2, 0), ones(100000))
	for size := 2; size <= impl.MaxRunners; size++ {
		for _, p := range coresByList(size, impl.MaxCells) {
			for i := range size {
				tryCall(t, reflectCoreAt(size, i), p)
			}
		}
	}
}

func TestTotalChargeNumbers(t *testing.T) {
	for _, size := range oddSizes() {
		for _, n := range slices.Concat(extremes(), []int{4, 5, 6, 10, 28}) {
			for _, do := range chargeNumberCalls(size, n) {
				tryCall(t, do)
			}
		}
	}
}
