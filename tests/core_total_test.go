package tests

import (
	"fmt"
	"math"
	"slices"
	"testing"

	"loop.example/g01136/impl"
)

// Promise 11 for rims, cores and quotients.

func coreCalls(size int) []call {
	name := func(function string) string { return fmt.Sprint(function, " for ", size) }
	return []call{
		{name("RimCells"), func(l [][]int) []any { return results(impl.RimCells(l[0], size)) }},
		{name("AddedRims"), func(l [][]int) []any { return results(impl.AddedRims(l[0], size)) }},
		{name("CoreOf"), func(l [][]int) []any { return results(impl.CoreOf(l[0], size)) }},
		{name("IsCore"), func(l [][]int) []any { return results(impl.IsCore(l[0], size)) }},
		{name("WeightOf"), func(l [][]int) []any { return results(impl.WeightOf(l[0], size)) }},
		{name("QuotientOf"), func(l [][]int) []any { return results(impl.QuotientOf(l[0], size)) }},
		{name("SignOf"), func(l [][]int) []any { return results(impl.SignOf(l[0], size)) }},
		{name("CountRuns"), func(l [][]int) []any { return results(impl.CountRuns(l[0], size)) }},
		{name("HooksDivisible"), func(l [][]int) []any { return results(impl.HooksDivisible(l[0], size)) }},
	}
}

func coreNumberCalls(size, n int) []call {
	return []call{
		{fmt.Sprint("TakeRim for ", size, n), func(l [][]int) []any {
			left, sign, ok := impl.TakeRim(l[0], size, n)
			return []any{left, sign, ok}
		}},
		{fmt.Sprint("BlockOf for ", size, n), func(l [][]int) []any { return results(impl.BlockOf(l[0], size, n)) }},
	}
}

func coreListCalls(size int) []call {
	return []call{
		{fmt.Sprint("RunOf for ", size), func(l [][]int) []any { return results(impl.RunOf(l[0], size, l[1])) }},
		{fmt.Sprint("SignOfRun for ", size), func(l [][]int) []any { return results(impl.SignOfRun(l[0], size, l[1])) }},
		{fmt.Sprint("SameBlock for ", size), func(l [][]int) []any { return results(impl.SameBlock(l[0], l[1], size)) }},
	}
}

func fromCore() call {
	return call{"FromCore", func(l [][]int) []any { return results(impl.FromCore(l[0], l[1:])) }}
}

// oddSizes are numbers of runners, and others beside them and extreme ones.
func oddSizes() []int {
	return append(edgeRunners(), 30, 40, math.MinInt+30, math.MaxInt-30, math.MaxInt-1, 1<<32+2)
}

// choiceLists returns lists of all kinds, some of them choices.
func choiceLists() [][]int {
	lists := [][]int{nil, {0}, {0, 0}, {1}, {0, 1}, {1, 0}, make([]int, 15), make([]int, 16), make([]int, 200), make([]int, 201), ones(200)}
	for _, number := range extremes() {
		lists = append(lists, []int{number}, []int{0, number}, []int{0, 0, number})
	}
	return lists
}

func TestTotalCoreLists(t *testing.T) {
	for _, list := range oddLists() {
		for _, size := range oddSizes() {
			for _, do := range coreCalls(size) {
				tryCall(t, do, list)
			}
		}
	}
}

func TestTotalCoreNumbers(t *testing.T) {
	for _, list := range oddLists() {
		if len(list) > 1000 {
			continue // each call copies the list
		}
		for _, size := range oddSizes() {
			for _, n := range append(extremes(), 4, 5) {
				for _, do := range coreNumberCalls(size, n) {
					tryCall(t, do, list)
				}
			}
		}
	}
}

func TestTotalCoreRuns(t *testing.T) {
	tops := append(notPartitions(), nil, []int{1}, []int{3, 3}, []int{4, 2, 1}, []int{6, 5, 4, 3, 2, 1}, []int{30}, ones(30))
	for _, list := range tops {
		if len(list) > 1000 {
			continue // each call copies the list
		}
		for _, size := range oddSizes() {
			for _, do := range coreListCalls(size) {
				for _, other := range append(choiceLists(), list) {
					tryCall(t, do, list, other)
					tryCall(t, do, other, list)
				}
			}
		}
	}
	for _, do := range coreListCalls(2) {
		tryCall(t, do, []int{30}, make([]int, 100000))
		tryCall(t, do, ones(100000), make([]int, 100000))
	}
}

func TestTotalCoreQuotients(t *testing.T) {
	tryCall(t, fromCore(), nil)
	tryCall(t, fromCore(), slices.Repeat([][]int{nil}, 100000)...)
	for _, list := range oddLists() {
		if len(list) > 1000 {
			continue // each call copies the list
		}
		for number := range impl.MaxRunners + 2 {
			lists := make([][]int, number+1)
			lists[0] = list
			tryCall(t, fromCore(), lists...)
			lists[0], lists[number] = nil, list
			tryCall(t, fromCore(), lists...)
			lists[0] = []int{1}
			tryCall(t, fromCore(), lists...)
			tryCall(t, fromCore(), slices.Repeat([][]int{list}, number+1)...)
		}
	}
	tryCall(t, fromCore(), ones(100000), nil, nil)
	tryCall(t, fromCore(), nil, ones(100000), nil)
}

// One list may be all arguments, and stays as it is.
func TestTotalCoreOneListTwice(t *testing.T) {
	row := guarded([]int{1})
	quotient := [][]int{row, row, row}
	p, ok := impl.FromCore(row, quotient)
	wantValue(t, "cells of the core 1 and 3 times 1", row, cellsIn(p), 10, ok)
	scribble(p, 555)
	same, ok := impl.SameBlock(row, row, 3)
	wantValue(t, "same block as itself", row, same, true, ok)
	trail, ok := impl.RunOf([]int{4}, 3, row[:0])
	wantRows(t, "run", "4", trail, [][]int{{4}}, ok)
	block, ok := impl.BlockOf(row, 3, 0)
	wantRows(t, "block", row, block, [][]int{{1}}, ok)
	scribble(block, 555)
	if !slices.Equal(whole(row), []int{1, guard, guard, guard, guard}) {
		t.Error("an argument is changed", whole(row))
	}
}
