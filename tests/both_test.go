package tests

import (
	"fmt"
	"slices"
	"testing"

	"loop.example/g01136/impl"
)

// Promise 5: all sizes in either order, all partitions of few cells, and all cores for both sizes, against the model.

func TestBothExample(t *testing.T) {
	if !impl.AreSizes(3, 4) {
		t.Error("3 and 4 are sizes")
	}
	gaps, ok := impl.GapsOf(3, 4)
	wantList(t, "gaps", "3 and 4", gaps, []int{1, 2, 5}, ok)
	cores := [][]int{{}, {1}, {2}, {1, 1}, {3, 1, 1}}
	list, ok := impl.AllBoth(3, 4)
	wantRows(t, "cores", "3 and 4", list, cores, ok)
	count, ok := impl.CountBoth(3, 4)
	wantValue(t, "number of cores", "3 and 4", count, 5, ok)
	cells, ok := impl.CellsOfBoth(3, 4)
	wantValue(t, "cells of all cores", "3 and 4", cells, 10, ok)
	turned, ok := impl.CountTurned(3, 4)
	wantValue(t, "number of own conjugates", "3 and 4", turned, 3, ok)
	greatest, ok := impl.GreatestBoth(3, 4)
	wantList(t, "greatest core", "3 and 4", greatest, []int{3, 1, 1}, ok)
	walks := [][]int{{2, 1}, {2, 0}, {1, 1}, {1, 0}, {0, 0}}
	hooks := [][]int{{}, {1}, {2}, {1, 2}, {1, 2, 5}}
	for rank, p := range cores {
		got, ok := impl.FirstHooks(p)
		wantList(t, "first hooks", p, got, hooks[rank], ok)
		got, ok = impl.FromFirstHooks(hooks[rank])
		wantList(t, "partition with first hooks", hooks[rank], got, p, ok)
		closed, ok := impl.AreClosedHooks(hooks[rank], 3, 4)
		wantValue(t, "whether closed for 3 and 4", hooks[rank], closed, true, ok)
		isCore, ok := impl.IsBothCore(p, 3, 4)
		wantValue(t, "whether core for 3 and 4", p, isCore, true, ok)
		got, ok = impl.WalkOfBoth(p, 3, 4)
		wantList(t, "walk for 3 and 4", p, got, walks[rank], ok)
		got, ok = impl.BothOfWalk(walks[rank], 3, 4)
		wantList(t, "core for 3 and 4 with walk", walks[rank], got, p, ok)
		got, ok = impl.BothAt(3, 4, rank)
		wantList(t, "core for 3 and 4 with rank", rank, got, p, ok)
		at, ok := impl.RankBoth(p, 3, 4)
		wantValue(t, "rank for 3 and 4", p, at, rank, ok)
	}
}

func TestBothSizes(t *testing.T) {
	for a := -10; a <= 60; a++ {
		for b := -10; b <= 60; b++ {
			if got, want := impl.AreSizes(a, b), slices.Contains(bothSizes(), pair{a, b}); got != want {
				t.Errorf("%d and %d are sizes: %v, want %v", a, b, got, want)
			}
		}
	}
}

func TestBothGaps(t *testing.T) {
	for _, of := range bothSizes() {
		want := gapsBySums(of)
		gaps, ok := impl.GapsOf(of.a, of.b)
		wantList(t, "gaps", of, gaps, want, ok)
		wantValue(t, "number of gaps", of, len(gaps), (of.a-1)*(of.b-1)/2, ok)
	}
}

func TestBothFirstHooks(t *testing.T) {
	for n := range impl.MaxCells + 1 {
		for _, p := range partitions(n) {
			want := firstHooksByCells(p)
			hooks, ok := impl.FirstHooks(p)
			wantList(t, "first hooks", p, hooks, want, ok)
			again, ok := impl.FromFirstHooks(want)
			wantList(t, "partition with first hooks", want, again, p, ok)
		}
	}
}

func TestBothFromAllFirstHooks(t *testing.T) {
	checkFirst := func(hooks []int) {
		p, ok := impl.FromFirstHooks(hooks)
		want := partsBelow(hooks)
		if rises(hooks) && !slices.Contains(hooks, 0) && fewCells(want) {
			wantList(t, "partition with first hooks", hooks, p, want, ok)
		} else {
			wantNoList(t, "partition with first hooks", hooks, p, ok)
		}
	}
	for _, hooks := range subsets(upTo(13)) {
		checkFirst(hooks)
	}
	for _, hooks := range listsUpTo(4, 0, 1, 2, 3, 14, 29, 30, 31) {
		checkFirst(hooks)
	}
}

func TestBothClosedHooks(t *testing.T) {
	lists := slices.Concat(subsets(upTo(12)), listsUpTo(4, -1, 0, 1, 2, 3, 5))
	for _, of := range bothSizes() {
		gaps := gapsBySums(of)
		closed := 0
		for _, hooks := range slices.Concat(lists, subsets(gaps)) {
			got, ok := impl.AreClosedHooks(hooks, of.a, of.b)
			wantValue(t, fmt.Sprint("whether closed for ", of), hooks, got, areClosedBySets(hooks, of, gaps), ok)
		}
		for _, hooks := range subsets(gaps) {
			if areClosedBySets(hooks, of, gaps) {
				closed++
			}
		}
		wantValue(t, "number of closed lists", of, closed, len(bothByList(of)), true)
	}
}

// A partition is a core for both sizes exactly if its first hooks are closed gaps.
func TestBothCores(t *testing.T) {
	for _, of := range bothSizes() {
		cores := keysOf(bothByList(of))
		for n := range impl.MaxCells + 1 {
			for _, p := range partitions(n) {
				want := hasKeyOf(cores, p)
				isCore, ok := impl.IsBothCore(p, of.a, of.b)
				wantValue(t, fmt.Sprint("whether core for ", of), p, isCore, want, ok)
				hooks, _ := impl.FirstHooks(p)
				closed, ok := impl.AreClosedHooks(hooks, of.a, of.b)
				wantValue(t, fmt.Sprint("whether first hooks are closed for ", of), p, closed, want, ok)
			}
		}
	}
}

// Chapter 3 tells the same cores, for sizes that are numbers of runners.
func TestBothCoresOfRims(t *testing.T) {
	eachBoth(func(p []int, of pair, _ int) {
		for _, size := range []int{of.a, of.b} {
			if size <= impl.MaxRunners {
				isCore, ok := impl.IsCore(p, size)
				wantValue(t, fmt.Sprint("whether core for ", size), p, isCore, true, ok)
			}
		}
	})
	eachOther(func(p []int, of pair) {
		if of.a <= impl.MaxRunners && of.b <= impl.MaxRunners {
			first, _ := impl.IsCore(p, of.a)
			second, ok := impl.IsCore(p, of.b)
			wantValue(t, fmt.Sprint("whether core for ", of), p, first && second, false, ok)
		}
	})
}

func TestBothLists(t *testing.T) {
	numbers := map[pair]int{{2, 3}: 2, {2, 5}: 3, {2, 7}: 4, {3, 4}: 5, {3, 5}: 7, {3, 7}: 12, {4, 5}: 14, {4, 7}: 30}
	for _, of := range bothSizes() {
		want := bothByList(of)
		list, ok := impl.AllBoth(of.a, of.b)
		wantRows(t, "cores", of, list, want, ok)
		count, ok := impl.CountBoth(of.a, of.b)
		wantValue(t, "number of cores", of, count, len(want), ok)
		wantValue(t, "number of cores", of, count, numbers[pair{min(of.a, of.b), max(of.a, of.b)}], ok)
		cells, own := 0, 0
		for _, p := range want {
			cells += sumOf(p)
			if slices.Equal(p, turned(p)) {
				own++
			}
		}
		got, ok := impl.CellsOfBoth(of.a, of.b)
		wantValue(t, "cells of all cores", of, got, cells, ok)
		got, ok = impl.CountTurned(of.a, of.b)
		wantValue(t, "number of own conjugates", of, got, own, ok)
		greatest, ok := impl.GreatestBoth(of.a, of.b)
		wantList(t, "greatest core", of, greatest, want[len(want)-1], ok)
		wantList(t, "conjugate of the greatest core", of, turned(greatest), greatest, ok)
		hooks, ok := impl.FirstHooks(greatest)
		wantList(t, "first hooks of the greatest core", of, hooks, gapsBySums(of), ok)
		wantValue(t, "cells of the greatest core", of, 24*sumOf(greatest), (of.a*of.a-1)*(of.b*of.b-1), ok)
	}
}

func TestBothRanks(t *testing.T) {
	eachBoth(func(p []int, of pair, rank int) {
		got, ok := impl.RankBoth(p, of.a, of.b)
		wantValue(t, fmt.Sprint("rank for ", of), p, got, rank, ok)
		core, ok := impl.BothAt(of.a, of.b, rank)
		wantList(t, fmt.Sprint("core for ", of, " with rank"), rank, core, p, ok)
	})
}

func TestBothConjugates(t *testing.T) {
	eachBoth(func(p []int, of pair, _ int) {
		isCore, ok := impl.IsBothCore(turned(p), of.a, of.b)
		wantValue(t, fmt.Sprint("whether the conjugate is core for ", of), p, isCore, true, ok)
	})
}

func TestBothWalks(t *testing.T) {
	eachBoth(func(p []int, of pair, _ int) {
		want := walkByCount(p, of)
		walk, ok := impl.WalkOfBoth(p, of.a, of.b)
		wantList(t, fmt.Sprint("walk for ", of), p, walk, want, ok)
		wantValue(t, fmt.Sprint("whether there is a walk for ", of), p, isWalkByRule(walk, of), true, ok)
		again, ok := impl.BothOfWalk(want, of.a, of.b)
		wantList(t, fmt.Sprint("core for ", of, " with walk"), want, again, p, ok)
	})
}

// Each walk is that of just one core, and no other list is one.
func TestBothOfAllWalks(t *testing.T) {
	for _, of := range bothSizes() {
		cores := map[string][]int{}
		for _, p := range bothByList(of) {
			cores[fmt.Sprint(walkByCount(p, of))] = p
		}
		wantValue(t, "number of different walks", of, len(cores), len(bothByList(of)), true)
		numbers := upTo(mostWalk(of)[0] + 2)
		for _, list := range listsUpTo(of.a-1, append(numbers, -1)...) {
			want, isWalk := cores[fmt.Sprint(list)]
			wantValue(t, fmt.Sprint("whether walk for ", of), list, isWalkByRule(list, of), isWalk, true)
			core, ok := impl.BothOfWalk(list, of.a, of.b)
			if isWalk {
				wantList(t, fmt.Sprint("core for ", of, " with walk"), list, core, want, ok)
			} else {
				wantNoList(t, fmt.Sprint("core for ", of, " with walk"), list, core, ok)
			}
		}
	}
}

func TestBothOtherPartitions(t *testing.T) {
	eachOther(func(p []int, of pair) {
		wantNoBoth(t, p, of)
	})
}

// wantNoBoth calls the functions of a core for both sizes with a partition that is none.
func wantNoBoth(t *testing.T, p []int, of pair) {
	t.Helper()
	from := fmt.Sprint(brief([][]int{p}), " for ", of)
	walk, ok := impl.WalkOfBoth(p, of.a, of.b)
	wantNoList(t, "walk", from, walk, ok)
	rank, ok := impl.RankBoth(p, of.a, of.b)
	wantNoValue(t, "rank", from, rank, ok)
}
