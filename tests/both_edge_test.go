package tests

import (
	"fmt"
	"math"
	"slices"
	"testing"

	"loop.example/g01136/impl"
)

// Promise 5: the edges that the chapter names or that its limits make, and invalid arguments.

func TestBothLimits(t *testing.T) {
	if impl.MaxBoth != 7 {
		t.Error("limit", impl.MaxBoth)
	}
}

// badSizes returns pairs that are no sizes.
func badSizes() []pair {
	list := []pair{
		{1, 2}, {1, 3}, {1, 7}, {1, 1}, {0, 1}, {0, 3}, {0, 0}, {-2, 3}, {-3, 4}, {-7, 2}, {-3, -4}, {-2, -3}, {2, -7}, // less than 2
		{3, 8}, {2, 9}, {5, 8}, {7, 8}, {8, 9}, {2, 11}, {2, 19}, {3, 10}, // greater than MaxBoth, though some have few cells
		{2, 2}, {3, 3}, {4, 4}, {7, 7}, {2, 4}, {2, 6}, {3, 6}, {4, 6}, {2, 8}, {6, 8}, // with a common divisor
		{5, 6}, {5, 7}, {6, 7}, // 35, 48 and 70 cells
		{1<<32 + 2, 3}, {1 << 32, 1<<32 + 1}, {1 << 62, 3}, {2, 1<<32 + 1}, {1 << 32, 3},
	}
	for _, number := range []int{math.MinInt, math.MinInt + 1, math.MaxInt - 1, math.MaxInt} {
		list = append(list, pair{number, 2}, pair{number, 3}, pair{number, 7}, pair{number, -1}, pair{number, 0}, pair{number, number}, pair{math.MinInt, number}, pair{math.MaxInt, number})
	}
	for _, of := range slices.Clone(list) {
		list = append(list, pair{of.b, of.a})
	}
	return list
}

func TestBothBadSizes(t *testing.T) {
	for _, of := range badSizes() {
		if impl.AreSizes(of.a, of.b) {
			t.Errorf("%v are no sizes", of)
		}
		gaps, ok := impl.GapsOf(of.a, of.b)
		wantNoList(t, "gaps", of, gaps, ok)
		all, ok := impl.AllBoth(of.a, of.b)
		wantNoRows(t, "cores", of, all, ok)
		number, ok := impl.CountBoth(of.a, of.b)
		wantNoValue(t, "number of cores", of, number, ok)
		greatest, ok := impl.GreatestBoth(of.a, of.b)
		wantNoList(t, "greatest core", of, greatest, ok)
		number, ok = impl.CellsOfBoth(of.a, of.b)
		wantNoValue(t, "cells of all cores", of, number, ok)
		number, ok = impl.CountTurned(of.a, of.b)
		wantNoValue(t, "number of own conjugates", of, number, ok)
		for _, list := range [][]int{nil, {}, {0}, {1}, {2, 1}, {1, 2}, {3, 1, 1}, {1, 2, 5}, {5, 3, 1}, {0, 0, 0, 0}, {4, 3, 2, 1, 1}, make([]int, 5), make([]int, 6), {30}, ones(30)} {
			wantNoBoth(t, list, of)
			isCore, ok := impl.IsBothCore(list, of.a, of.b)
			wantNoValue(t, fmt.Sprint("whether core for ", of), list, isCore, ok)
			closed, ok := impl.AreClosedHooks(list, of.a, of.b)
			wantNoValue(t, fmt.Sprint("whether closed for ", of), list, closed, ok)
			core, ok := impl.BothOfWalk(list, of.a, of.b)
			wantNoList(t, fmt.Sprint("core with walk for ", of), list, core, ok)
		}
		for _, rank := range []int{-1, 0, 1, 2} {
			core, ok := impl.BothAt(of.a, of.b, rank)
			wantNoList(t, fmt.Sprint("core for ", of, " with rank"), rank, core, ok)
		}
	}
}

// 4 and 7 have a core of MaxCells cells; the next greater sizes, 5 and 6, have one of 35 cells and are none.
func TestBothMostCells(t *testing.T) {
	greatest := []int{9, 6, 4, 4, 2, 2, 1, 1, 1}
	for _, of := range []pair{{4, 7}, {7, 4}} {
		gaps, ok := impl.GapsOf(of.a, of.b)
		wantList(t, "gaps", of, gaps, []int{1, 2, 3, 5, 6, 9, 10, 13, 17}, ok)
		p, ok := impl.GreatestBoth(of.a, of.b)
		wantList(t, "greatest core", of, p, greatest, ok)
		wantValue(t, "cells of the greatest core", of, sumOf(p), impl.MaxCells, ok)
		number, ok := impl.CountBoth(of.a, of.b)
		wantValue(t, "number of cores", of, number, 30, ok)
		number, ok = impl.CellsOfBoth(of.a, of.b)
		wantValue(t, "cells of all cores", of, number, 270, ok)
		number, ok = impl.CountTurned(of.a, of.b)
		wantValue(t, "number of own conjugates", of, number, 10, ok)
		rank, ok := impl.RankBoth(p, of.a, of.b)
		wantValue(t, fmt.Sprint("rank for ", of), p, rank, 29, ok)
	}
	for _, of := range []pair{{5, 6}, {6, 5}} {
		if impl.AreSizes(of.a, of.b) {
			t.Errorf("%v are no sizes", of)
		}
	}
}

// The least sizes, and those with 2 and MaxBoth.
func TestBothLeastSizes(t *testing.T) {
	all := map[pair][][]int{
		{2, 3}: {{}, {1}}, {3, 2}: {{}, {1}},
		{2, 5}: {{}, {1}, {2, 1}}, {5, 2}: {{}, {1}, {2, 1}},
		{2, 7}: {{}, {1}, {2, 1}, {3, 2, 1}}, {7, 2}: {{}, {1}, {2, 1}, {3, 2, 1}},
	}
	for of, want := range all {
		list, ok := impl.AllBoth(of.a, of.b)
		wantRows(t, "cores", of, list, want, ok)
		number, ok := impl.CountTurned(of.a, of.b)
		wantValue(t, "number of own conjugates", of, number, len(want), ok)
	}
	for rank, walk := range [][]int{{3}, {2}, {1}, {0}} {
		core, ok := impl.BothOfWalk(walk, 2, 7)
		wantList(t, "core for 2 and 7 with walk", walk, core, all[pair{2, 7}][rank], ok)
	}
	for rank, walk := range [][]int{{1, 1, 1, 0, 0, 0}, {1, 1, 0, 0, 0, 0}, {1, 0, 0, 0, 0, 0}, {0, 0, 0, 0, 0, 0}} {
		core, ok := impl.BothOfWalk(walk, 7, 2)
		wantList(t, "core for 7 and 2 with walk", walk, core, all[pair{7, 2}][rank], ok)
	}
}

func TestBothNoCells(t *testing.T) {
	for _, none := range [][]int{nil, {}} {
		hooks, ok := impl.FirstHooks(none)
		wantList(t, "first hooks", none, hooks, nil, ok)
		p, ok := impl.FromFirstHooks(none)
		wantList(t, "partition with first hooks", none, p, nil, ok)
		for _, of := range bothSizes() {
			isCore, ok := impl.IsBothCore(none, of.a, of.b)
			wantValue(t, fmt.Sprint("whether core for ", of), none, isCore, true, ok)
			closed, ok := impl.AreClosedHooks(none, of.a, of.b)
			wantValue(t, fmt.Sprint("whether closed for ", of), none, closed, true, ok)
			walk, ok := impl.WalkOfBoth(none, of.a, of.b)
			wantList(t, fmt.Sprint("walk for ", of), none, walk, mostWalk(of), ok)
			p, ok = impl.BothOfWalk(mostWalk(of), of.a, of.b)
			wantList(t, fmt.Sprint("core with the greatest walk for ", of), none, p, nil, ok)
			rank, ok := impl.RankBoth(none, of.a, of.b)
			wantValue(t, fmt.Sprint("rank for ", of), none, rank, 0, ok)
			p, ok = impl.BothAt(of.a, of.b, 0)
			wantList(t, "core with rank 0 for", of, p, nil, ok)
			p, ok = impl.BothOfWalk(none, of.a, of.b)
			wantNoList(t, fmt.Sprint("core with walk for ", of), none, p, ok)
		}
	}
}

// The greatest core has all gaps as first hooks and the least walk.
func TestBothGreatest(t *testing.T) {
	for _, of := range bothSizes() {
		gaps := gapsBySums(of)
		p := partsBelow(gaps)
		closed, ok := impl.AreClosedHooks(gaps, of.a, of.b)
		wantValue(t, fmt.Sprint("whether closed for ", of), gaps, closed, true, ok)
		core, ok := impl.FromFirstHooks(gaps)
		wantList(t, "partition with first hooks", gaps, core, p, ok)
		zeros := make([]int, of.a-1)
		walk, ok := impl.WalkOfBoth(p, of.a, of.b)
		wantList(t, fmt.Sprint("walk for ", of), p, walk, zeros, ok)
		core, ok = impl.BothOfWalk(zeros, of.a, of.b)
		wantList(t, fmt.Sprint("core with walk for ", of), zeros, core, p, ok)
		count, _ := impl.CountBoth(of.a, of.b)
		rank, ok := impl.RankBoth(p, of.a, of.b)
		wantValue(t, fmt.Sprint("rank for ", of), p, rank, count-1, ok)
		// There are no more gaps, and others may need the least one.
		for _, size := range []int{of.a, of.b, of.a * of.b} {
			longer := append(slices.Clone(gaps), size)
			slices.Sort(longer)
			closed, ok := impl.AreClosedHooks(longer, of.a, of.b)
			wantValue(t, fmt.Sprint("whether closed for ", of), longer, closed, false, ok)
		}
		if len(gaps) > 1 {
			closed, ok := impl.AreClosedHooks(gaps[1:], of.a, of.b)
			wantValue(t, fmt.Sprint("whether closed for ", of), gaps[1:], closed, areClosedBySets(gaps[1:], of, gaps), ok)
		}
	}
}

func TestBothRankEdges(t *testing.T) {
	for _, of := range bothSizes() {
		count := len(bothByList(of))
		last, ok := impl.BothAt(of.a, of.b, count-1)
		wantList(t, "last core for", of, last, bothByList(of)[count-1], ok)
		for _, rank := range []int{count, count + 1, 31, 100, 1 << 32, math.MaxInt, -1, -count, math.MinInt} {
			core, ok := impl.BothAt(of.a, of.b, rank)
			wantNoList(t, fmt.Sprint("core for ", of, " with rank"), rank, core, ok)
		}
	}
}

func TestBothClosedEdges(t *testing.T) {
	closed := []struct {
		hooks []int
		of    pair
		want  bool
	}{
		{[]int{1}, pair{3, 4}, true}, {[]int{2}, pair{3, 4}, true}, {[]int{1, 2}, pair{3, 4}, true}, {[]int{1, 2, 5}, pair{3, 4}, true},
		{[]int{5}, pair{3, 4}, false}, {[]int{1, 5}, pair{3, 4}, false}, {[]int{2, 5}, pair{3, 4}, false}, // not closed
		{[]int{0}, pair{3, 4}, false}, {[]int{0, 1}, pair{3, 4}, false}, {[]int{0, 1, 2, 5}, pair{3, 4}, false}, {[]int{0, 0}, pair{3, 4}, false},
		{[]int{1, 1}, pair{3, 4}, false}, {[]int{1, 1, 2, 5}, pair{3, 4}, false}, {[]int{1, 2, 2, 5}, pair{3, 4}, false}, {[]int{1, 2, 5, 5}, pair{3, 4}, false},
		{[]int{2, 1}, pair{3, 4}, false}, {[]int{5, 2, 1}, pair{3, 4}, false}, {[]int{1, 5, 2}, pair{3, 4}, false}, {[]int{2, 1, 5}, pair{3, 4}, false},
		{[]int{3}, pair{3, 4}, false}, {[]int{4}, pair{3, 4}, false}, {[]int{1, 2, 3}, pair{3, 4}, false}, {[]int{1, 4}, pair{3, 4}, false}, {[]int{1, 2, 5, 8}, pair{3, 4}, false}, {[]int{6}, pair{3, 4}, false},
		{[]int{-1}, pair{3, 4}, false}, {[]int{-1, 1}, pair{3, 4}, false}, {[]int{-2, -1, 1, 2, 5}, pair{3, 4}, false}, {[]int{1, -1}, pair{3, 4}, false},
		{[]int{1, 3}, pair{2, 5}, true}, {[]int{3}, pair{2, 5}, false}, {[]int{1, 3, 5}, pair{2, 7}, true}, {[]int{1, 5}, pair{2, 7}, false}, {[]int{3, 5}, pair{7, 2}, false}, // closed for one size alone
		{[]int{1, 4}, pair{3, 5}, true}, {[]int{1, 2, 4, 7}, pair{3, 5}, true}, {[]int{1, 4, 7}, pair{3, 5}, false}, {[]int{2, 7}, pair{5, 3}, false},
	}
	for _, of := range closed {
		got, ok := impl.AreClosedHooks(of.hooks, of.of.a, of.of.b)
		wantValue(t, fmt.Sprint("whether closed for ", of.of), of.hooks, got, of.want, ok)
	}
	for _, of := range bothSizes() {
		for _, hooks := range [][]int{
			{math.MinInt}, {math.MaxInt}, {1, math.MaxInt}, {math.MinInt, 1}, {math.MinInt, math.MaxInt}, {math.MaxInt, math.MinInt}, {1, math.MinInt}, {math.MaxInt - 1, math.MaxInt},
			{1<<32 + 1}, {-1 << 32}, {math.MinInt + 2, math.MinInt + 3}, upTo(50)[1:], upTo(100000), upTo(100000)[1:], ones(100000), make([]int, 100000),
		} {
			got, ok := impl.AreClosedHooks(hooks, of.a, of.b)
			wantValue(t, fmt.Sprint("whether closed for ", of), brief([][]int{hooks}), got, false, ok)
		}
	}
}

func TestBothFirstHookEdges(t *testing.T) {
	for _, of := range []struct{ hooks, p []int }{
		{[]int{1}, []int{1}}, {[]int{30}, []int{30}}, {upTo(31)[1:], ones(30)}, {[]int{15, 16}, []int{15, 15}}, {[]int{1, 30}, []int{29, 1}}, {[]int{14, 17}, []int{16, 14}},
		{upTo(30)[1:], ones(29)}, {append(upTo(29)[1:], 30), append([]int{2}, ones(28)...)}, {[]int{6, 7, 8, 9, 10}, []int{6, 6, 6, 6, 6}}, {[]int{2, 5, 8, 11, 14}, []int{10, 8, 6, 4, 2}},
	} {
		p, ok := impl.FromFirstHooks(of.hooks)
		wantList(t, "partition with first hooks", of.hooks, p, of.p, ok)
		hooks, ok := impl.FirstHooks(of.p)
		wantList(t, "first hooks", of.p, hooks, of.hooks, ok)
	}
	for _, hooks := range [][]int{
		{31}, {15, 17}, {16, 17}, {1, 31}, {29, 30}, upTo(32)[1:], append(upTo(30)[1:], 31), {1, 2, 31}, {32}, {1000}, {1001}, upTo(41)[1:], upTo(42)[1:], upTo(100000)[1:], // more than MaxCells cells
		{0}, {0, 1}, {0, 30}, {0, 1, 2, 5}, upTo(31), upTo(40), make([]int, 100000), {1, 0}, // with 0
		{1, 1}, {2, 2}, {1, 2, 2}, {3, 3, 5}, {2, 1}, {5, 2, 1}, {1, 5, 2}, {3, 1, 2}, ones(30), ones(100000), // not increasing
		{-1}, {-1, 1}, {-2, -1}, {1, -1}, {-30, 30}, {math.MinInt}, {math.MaxInt}, {1, math.MaxInt}, {math.MinInt, 1}, {math.MaxInt, math.MinInt}, {math.MinInt, math.MaxInt}, {math.MaxInt - 1, math.MaxInt}, {1 << 32}, {1<<32 + 1, 1<<32 + 2},
	} {
		p, ok := impl.FromFirstHooks(hooks)
		wantNoList(t, "partition with first hooks", brief([][]int{hooks}), p, ok)
	}
}

func TestBothWalkEdges(t *testing.T) {
	for _, of := range bothSizes() {
		most, none := mostWalk(of), make([]int, of.a-1)
		bad := [][]int{nil, none[1:], most[1:], append(slices.Clone(none), 0), append(slices.Clone(most), 0), slices.Concat(most, most), make([]int, 100000), {math.MaxInt}}
		for i := range most {
			atMost := append(slices.Clone(most[:i+1]), none[i+1:]...)
			core, ok := impl.BothOfWalk(atMost, of.a, of.b)
			again, fine := impl.WalkOfBoth(core, of.a, of.b)
			wantList(t, fmt.Sprint("walk of core with walk for ", of), atMost, again, atMost, ok && fine)
			for _, number := range []int{most[i] + 1, most[i] + 2, 1 << 32, math.MaxInt, math.MinInt, -1, -most[i] - 1} {
				walk := slices.Clone(most)
				walk[i] = number
				bad = append(bad, walk)
			}
			less := slices.Clone(none)
			less[i] = -1
			bad = append(bad, less, slices.Repeat([]int{-i - 1}, of.a-1))
			if i > 0 && most[i] > 0 {
				rising := slices.Clone(most)
				rising[i-1] = most[i] - 1
				bad = append(bad, rising)
			}
		}
		for _, walk := range bad {
			core, ok := impl.BothOfWalk(walk, of.a, of.b)
			wantNoList(t, fmt.Sprint("core with walk for ", of), brief([][]int{walk}), core, ok)
		}
	}
	// The order of the sizes counts.
	walk, ok := impl.WalkOfBoth([]int{2}, 3, 4)
	wantList(t, "walk for 3 and 4", "2", walk, []int{1, 1}, ok)
	walk, ok = impl.WalkOfBoth([]int{2}, 4, 3)
	wantList(t, "walk for 4 and 3", "2", walk, []int{2, 0, 0}, ok)
	core, ok := impl.BothOfWalk([]int{2, 0, 0}, 3, 4)
	wantNoList(t, "core with walk for 3 and 4", "2 0 0", core, ok)
	core, ok = impl.BothOfWalk([]int{1, 1}, 4, 3)
	wantNoList(t, "core with walk for 4 and 3", "1 1", core, ok)
}

func TestBothOwnConjugates(t *testing.T) {
	own := map[pair][][]int{
		{3, 4}: {{}, {1}, {3, 1, 1}}, {5, 3}: {{}, {1}, {4, 2, 1, 1}},
		{4, 5}: {{}, {1}, {2, 1}, {2, 2}, {4, 1, 1, 1}, {6, 3, 3, 1, 1, 1}},
	}
	for of, want := range own {
		number, ok := impl.CountTurned(of.a, of.b)
		wantValue(t, "number of own conjugates", of, number, len(want), ok)
		var found [][]int
		list, _ := impl.AllBoth(of.a, of.b)
		for _, p := range list {
			if conjugate, _ := impl.ConjugateOf(p); slices.Equal(p, conjugate) {
				found = append(found, p)
			}
		}
		wantRows(t, "own conjugates", of, found, want, ok)
	}
}

// Partitions that are cores for one of the sizes, or for none.
func TestBothCoresForOne(t *testing.T) {
	for _, of := range []struct {
		p     []int
		sizes pair
	}{
		{[]int{3}, pair{3, 4}}, {[]int{2, 1}, pair{3, 4}}, {[]int{2, 2}, pair{3, 4}}, {[]int{3, 1}, pair{3, 4}}, {[]int{2}, pair{2, 7}}, {[]int{4, 3, 2, 1}, pair{2, 7}}, {[]int{3, 2, 1}, pair{2, 5}},
		{[]int{7}, pair{3, 7}}, {[]int{6, 1}, pair{4, 7}}, {[]int{5, 3, 1}, pair{4, 7}}, {ones(7), pair{2, 7}}, {[]int{4, 2}, pair{3, 5}}, {[]int{30}, pair{4, 7}}, {ones(30), pair{7, 4}}, {[]int{9, 6, 4, 4, 2, 2, 1, 1}, pair{4, 7}},
	} {
		for _, sizes := range []pair{of.sizes, {of.sizes.b, of.sizes.a}} {
			isCore, ok := impl.IsBothCore(of.p, sizes.a, sizes.b)
			wantValue(t, fmt.Sprint("whether core for ", sizes), of.p, isCore, false, ok)
			wantNoBoth(t, of.p, sizes)
		}
	}
	// No abacus has 7 runners, but 7 is a size.
	isCore, ok := impl.IsBothCore([]int{4, 2}, 3, 7)
	wantValue(t, "whether core for 3 and 7", "4 2", isCore, true, ok)
}

func TestBothInvalidPartitions(t *testing.T) {
	for _, p := range notPartitions() {
		from := brief([][]int{p})
		hooks, ok := impl.FirstHooks(p)
		wantNoList(t, "first hooks", from, hooks, ok)
		for _, of := range bothSizes() {
			isCore, ok := impl.IsBothCore(p, of.a, of.b)
			wantNoValue(t, fmt.Sprint("whether core for ", of), from, isCore, ok)
			wantNoBoth(t, p, of)
		}
	}
}
