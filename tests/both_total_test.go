package tests

import (
	"fmt"
	"math"
	"slices"
	"testing"

	"loop.example/g01136/impl"
)

// Promise 11 for cores for two sizes.

func hookCalls() []call {
	return []call{
		{"FirstHooks", func(l [][]int) []any { return results(impl.FirstHooks(l[0])) }},
		{"FromFirstHooks", func(l [][]int) []any { return results(impl.FromFirstHooks(l[0])) }},
	}
}

func bothCalls(of pair) []call {
	name := func(function string) string { return fmt.Sprint(function, " for ", of) }
	return []call{
		{name("IsBothCore"), func(l [][]int) []any { return results(impl.IsBothCore(l[0], of.a, of.b)) }},
		{name("AreClosedHooks"), func(l [][]int) []any { return results(impl.AreClosedHooks(l[0], of.a, of.b)) }},
		{name("WalkOfBoth"), func(l [][]int) []any { return results(impl.WalkOfBoth(l[0], of.a, of.b)) }},
		{name("BothOfWalk"), func(l [][]int) []any { return results(impl.BothOfWalk(l[0], of.a, of.b)) }},
		{name("RankBoth"), func(l [][]int) []any { return results(impl.RankBoth(l[0], of.a, of.b)) }},
	}
}

func sizeCalls(of pair) []call {
	name := func(function string) string { return fmt.Sprint(function, " for ", of) }
	return []call{
		{name("AreSizes"), func([][]int) []any { return []any{impl.AreSizes(of.a, of.b)} }},
		{name("GapsOf"), func([][]int) []any { return results(impl.GapsOf(of.a, of.b)) }},
		{name("AllBoth"), func([][]int) []any { return results(impl.AllBoth(of.a, of.b)) }},
		{name("CountBoth"), func([][]int) []any { return results(impl.CountBoth(of.a, of.b)) }},
		{name("GreatestBoth"), func([][]int) []any { return results(impl.GreatestBoth(of.a, of.b)) }},
		{name("CellsOfBoth"), func([][]int) []any { return results(impl.CellsOfBoth(of.a, of.b)) }},
		{name("CountTurned"), func([][]int) []any { return results(impl.CountTurned(of.a, of.b)) }},
	}
}

func bothAt(of pair, rank int) call {
	return call{fmt.Sprint("BothAt for ", of, " with rank ", rank), func([][]int) []any { return results(impl.BothAt(of.a, of.b, rank)) }}
}

// bothArguments returns sizes, and others of all kinds.
func bothArguments() []pair {
	list := append(bothSizes(), badSizes()...)
	for _, a := range oddSizes() {
		for _, b := range oddSizes() {
			list = append(list, pair{a, b})
		}
	}
	return list
}

// bothInputs returns lists of all kinds: partitions, hooks, walks and others.
func bothInputs() [][]int {
	lists := append(oddLists(), notBeads()...)
	for _, of := range bothSizes() {
		lists = append(lists, mostWalk(of), make([]int, of.a-1), ones(of.a-1), gapsBySums(of))
	}
	for _, of := range []pair{{2, 7}, {3, 7}, {4, 7}} {
		lists = append(lists, bothByList(of)...)
	}
	for _, number := range extremes() {
		lists = append(lists, []int{1, number}, []int{1, 2, number}, []int{number, 0, 0}, []int{number, 1, 0, 0, 0, 0})
	}
	return append(lists, upTo(30)[1:], upTo(31)[1:], upTo(32)[1:], upTo(41)[1:], upTo(100000)[1:], make([]int, 100000))
}

func TestTotalBothHooks(t *testing.T) {
	for _, list := range bothInputs() {
		for _, do := range hookCalls() {
			tryCall(t, do, list)
		}
	}
}

func TestTotalBothLists(t *testing.T) {
	arguments := append(bothSizes(), pair{1, 2}, pair{2, 2}, pair{2, 8}, pair{5, 6}, pair{0, 0}, pair{-3, 4}, pair{math.MinInt, -1}, pair{math.MaxInt, math.MinInt})
	for _, list := range bothInputs() {
		for _, of := range arguments {
			for _, do := range bothCalls(of) {
				tryCall(t, do, list)
			}
		}
	}
}

func TestTotalBothArguments(t *testing.T) {
	for _, of := range bothArguments() {
		for _, list := range [][]int{nil, {0}, {1}, {1, 2, 5}, {3, 1, 1}, {2, 1}, {math.MaxInt, math.MinInt}, make([]int, 6)} {
			for _, do := range bothCalls(of) {
				tryCall(t, do, list)
			}
		}
		for _, do := range sizeCalls(of) {
			tryCall(t, do)
		}
		for _, rank := range extremes() {
			tryCall(t, bothAt(of, rank))
		}
	}
}

// Each call has memory of its own: what is written to one result changes no other one.
func TestTotalBothResultsApart(t *testing.T) {
	for _, of := range bothSizes() {
		first, _ := impl.AllBoth(of.a, of.b)
		for _, p := range first {
			scribble(p, 555)
		}
		second, ok := impl.AllBoth(of.a, of.b)
		wantRows(t, "cores", of, second, bothByList(of), ok)
		gaps, _ := impl.GapsOf(of.a, of.b)
		scribble(gaps, 555)
		gaps, ok = impl.GapsOf(of.a, of.b)
		wantList(t, "gaps", of, gaps, gapsBySums(of), ok)
	}
	hooks := guarded([]int{1, 2, 5})
	p, _ := impl.FromFirstHooks(hooks)
	scribble(p, 555)
	again, _ := impl.FirstHooks([]int{3, 1, 1})
	scribble(again, 555)
	if !slices.Equal(whole(hooks)[:7], []int{1, 2, 5, guard, guard, guard, guard}) {
		t.Error("an argument is changed", whole(hooks))
	}
}
