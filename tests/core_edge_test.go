package tests

import (
	"fmt"
	"math"
	"slices"
	"testing"

	"loop.example/g01136/impl"
)

// Promise 3: the edges that the chapter names or that its limits make, and invalid arguments.

func TestCoreLimits(t *testing.T) {
	if impl.MaxRuns != 200 {
		t.Error("limit", impl.MaxRuns)
	}
}

// hookShapes returns all partitions of n cells that are one hook, the greatest one first.
func hookShapes(n int) [][]int {
	var list [][]int
	for first := n; first >= 1; first-- {
		list = append(list, append([]int{first}, ones(n-first)...))
	}
	return list
}

func TestCoreNoCells(t *testing.T) {
	for _, p := range [][]int{nil, {}} {
		for size := 2; size <= impl.MaxRunners; size++ {
			checkOwnCore(t, p, size)
			added, ok := impl.AddedRims(p, size)
			wantRows(t, "added rims", size, added, hookShapes(size), ok)
			block, ok := impl.BlockOf(p, size, 1)
			wantRows(t, "block with the weight 1", size, block, hookShapes(size), ok)
		}
	}
}

func TestCoreOwnCore(t *testing.T) {
	for size := 2; size <= impl.MaxRunners; size++ {
		checkOwnCore(t, []int{1}, size)
		checkOwnCore(t, []int{size - 1}, size)
		checkOwnCore(t, ones(size-1), size)
	}
	checkOwnCore(t, []int{2, 1}, 2)
	checkOwnCore(t, []int{7, 6, 5, 4, 3, 2, 1}, 2)
	checkOwnCore(t, []int{3, 1, 1}, 3)
	// the greatest cores there are
	for size := 3; size <= impl.MaxRunners; size++ {
		number := 0
		for n := impl.MaxCells; number == 0; n-- {
			for _, p := range partitions(n) {
				if isCoreOf(p, size) {
					number++
					checkOwnCore(t, p, size)
				}
			}
		}
	}
}

// checkOwnCore calls all functions of one partition with a partition that has no rim.
func checkOwnCore(t *testing.T, p []int, size int) {
	t.Helper()
	from := fmt.Sprint(p, " and ", size)
	none := make([][]int, size)
	cells, ok := impl.RimCells(p, size)
	wantRows(t, "rim cells", from, cells, nil, ok)
	for _, k := range []int{0, 1, -1} {
		left, sign, ok := impl.TakeRim(p, size, k)
		wantNoList(t, "rim taken", from, left, ok)
		wantNoValue(t, "sign of the rim", from, sign, ok)
	}
	core, ok := impl.CoreOf(p, size)
	wantList(t, "core", from, core, p, ok)
	isCore, ok := impl.IsCore(p, size)
	wantValue(t, "is core", from, isCore, true, ok)
	weight, ok := impl.WeightOf(p, size)
	wantValue(t, "weight", from, weight, 0, ok)
	quotient, ok := impl.QuotientOf(p, size)
	wantRows(t, "quotient", from, quotient, none, ok)
	again, ok := impl.FromCore(p, none)
	wantList(t, "partition with core", from, again, p, ok)
	sign, ok := impl.SignOf(p, size)
	wantValue(t, "sign", from, sign, 1, ok)
	for _, choices := range [][]int{nil, {}} {
		trail, ok := impl.RunOf(p, size, choices)
		wantRows(t, "run", from, trail, [][]int{p}, ok)
		sign, ok = impl.SignOfRun(p, size, choices)
		wantValue(t, "sign of run", from, sign, 1, ok)
	}
	wantNoRun(t, p, size, []int{0})
	runs, ok := impl.CountRuns(p, size)
	wantValue(t, "runs", from, runs, 1, ok)
	divisible, ok := impl.HooksDivisible(p, size)
	wantValue(t, "divisible hooks", from, divisible, 0, ok)
	same, ok := impl.SameBlock(p, p, size)
	wantValue(t, "same block as itself", from, same, true, ok)
	block, ok := impl.BlockOf(p, size, 0)
	wantRows(t, "block with the weight 0", from, block, [][]int{p}, ok)
}

func wantNoRun(t *testing.T, p []int, size int, choices []int) {
	t.Helper()
	from := fmt.Sprint(brief([][]int{p}), " and ", size, " by ", brief([][]int{choices}))
	trail, ok := impl.RunOf(p, size, choices)
	wantNoRows(t, "run", from, trail, ok)
	sign, ok := impl.SignOfRun(p, size, choices)
	wantNoValue(t, "sign of run", from, sign, ok)
}

// wantNothing calls all functions that take a partition and a number of runners, where one of both is none.
func wantNothing(t *testing.T, p []int, size int) {
	t.Helper()
	from := fmt.Sprint(brief([][]int{p}), " and ", size)
	cells, ok := impl.RimCells(p, size)
	wantNoRows(t, "rim cells", from, cells, ok)
	for _, k := range []int{0, 1, -1} {
		left, sign, ok := impl.TakeRim(p, size, k)
		wantNoList(t, "rim taken", from, left, ok)
		wantNoValue(t, "sign of the rim", from, sign, ok)
	}
	added, ok := impl.AddedRims(p, size)
	wantNoRows(t, "added rims", from, added, ok)
	core, ok := impl.CoreOf(p, size)
	wantNoList(t, "core", from, core, ok)
	isCore, ok := impl.IsCore(p, size)
	wantNoValue(t, "is core", from, isCore, ok)
	weight, ok := impl.WeightOf(p, size)
	wantNoValue(t, "weight", from, weight, ok)
	quotient, ok := impl.QuotientOf(p, size)
	wantNoRows(t, "quotient", from, quotient, ok)
	sign, ok := impl.SignOf(p, size)
	wantNoValue(t, "sign", from, sign, ok)
	wantNoRun(t, p, size, nil)
	wantNoRun(t, p, size, []int{0})
	runs, ok := impl.CountRuns(p, size)
	wantNoValue(t, "runs", from, runs, ok)
	divisible, ok := impl.HooksDivisible(p, size)
	wantNoValue(t, "divisible hooks", from, divisible, ok)
	for _, q := range [][]int{p, {}, {1}, {4, 2, 1}} {
		same, ok := impl.SameBlock(p, q, size)
		wantNoValue(t, "same block", from, same, ok)
		same, ok = impl.SameBlock(q, p, size)
		wantNoValue(t, "same block", from, same, ok)
	}
	for _, weight := range []int{0, 1, 4} {
		block, ok := impl.BlockOf(p, size, weight)
		wantNoRows(t, "block", from, block, ok)
	}
}

func TestCoreInvalidPartitions(t *testing.T) {
	for _, p := range notPartitions() {
		for size := 1; size <= impl.MaxRunners+1; size++ {
			wantNothing(t, p, size)
		}
		for size := 2; size <= impl.MaxRunners; size++ {
			made, ok := impl.FromCore(p, make([][]int, size))
			wantNoList(t, "partition with core", brief([][]int{p}), made, ok)
			for at := range size {
				quotient := make([][]int, size)
				quotient[at] = p
				for _, core := range [][]int{{}, {1}} {
					made, ok := impl.FromCore(core, quotient)
					wantNoList(t, fmt.Sprint("partition with the core ", core), brief(quotient), made, ok)
				}
			}
		}
	}
}

func TestCoreInvalidSizes(t *testing.T) {
	for _, size := range badRunners() {
		for _, p := range [][]int{nil, {1}, {2, 1}, {4, 2, 1}, {30}, ones(30)} {
			wantNothing(t, p, size)
		}
	}
	for _, number := range []int{0, 1, 7, 8, 40, 100000} {
		for _, p := range [][]int{nil, {1}} {
			for _, core := range [][]int{nil, {1}, {2, 1}} {
				made, ok := impl.FromCore(core, slices.Repeat([][]int{p}, number))
				wantNoList(t, fmt.Sprint("partition with partitions: ", number), core, made, ok)
			}
		}
	}
}

func TestCoreLeastAndMostRunners(t *testing.T) {
	core, ok := impl.CoreOf([]int{2, 2}, 2)
	wantList(t, "core for 2", "2 2", core, nil, ok)
	p, ok := impl.FromCore([]int{1}, [][]int{{}, {1}})
	wantList(t, "partition with the core", "1 for 2", p, []int{1, 1, 1}, ok)
	p, ok = impl.FromCore([]int{1}, [][]int{{1}, {}})
	wantList(t, "partition with the core", "1 for 2", p, []int{3}, ok)
	core, ok = impl.CoreOf([]int{7}, 6)
	wantList(t, "core for 6", "7", core, []int{1}, ok)
	p, ok = impl.FromCore([]int{1}, [][]int{{1}, {}, {}, {}, {}, {}})
	wantList(t, "partition with the core", "1 for 6", p, []int{7}, ok)
	p, ok = impl.FromCore(nil, [][]int{{1}, {}, {}, {}, {}, {1}})
	wantList(t, "partition with the core", "none for 6", p, []int{6, 2, 1, 1, 1, 1}, ok)
}

func TestCoreLastRim(t *testing.T) {
	p := []int{6, 5, 4, 3, 2, 1}
	left, sign, ok := impl.TakeRim(p, 3, 4)
	wantList(t, "last rim taken", p, left, []int{6, 5, 4, 3}, ok)
	wantValue(t, "sign of the last rim", p, sign, -1, ok)
	for _, k := range []int{5, 6, -1, 1 << 32, math.MaxInt, math.MinInt} {
		left, sign, ok = impl.TakeRim(p, 3, k)
		wantNoList(t, fmt.Sprint("rim taken ", k), p, left, ok)
		wantNoValue(t, fmt.Sprint("sign of rim ", k), p, sign, ok)
	}
}

func TestCoreAddedRimsEdges(t *testing.T) {
	for size := 2; size <= impl.MaxRunners; size++ {
		row, ok := impl.AddedRims([]int{30 - size}, size)
		if !ok || len(row) == 0 || !slices.Equal(row[0], []int{30}) {
			t.Error("added rims up to 30 in a row", size, row, ok)
		}
		column, ok := impl.AddedRims(ones(30-size), size)
		if !ok || len(column) == 0 || !slices.Equal(column[len(column)-1], ones(30)) {
			t.Error("added rims up to 30 in a column", size, column, ok)
		}
		for _, p := range [][]int{{31 - size}, ones(31 - size), {30}, ones(30), {15, 15}, {30 - size, 1}, {10, 10, 10}} {
			added, ok := impl.AddedRims(p, size)
			wantNoRows(t, fmt.Sprint("added rims of ", size), p, added, ok)
		}
	}
}

func TestCoreFromCoreMostCells(t *testing.T) {
	fits := []struct {
		core     []int
		quotient [][]int
	}{
		{nil, [][]int{{15}, {}}}, {nil, [][]int{{}, {15}}}, {nil, [][]int{ones(15), {}}}, {nil, [][]int{{}, ones(15)}},
		{nil, [][]int{{8}, {7}}}, {nil, [][]int{{}, {5, 5}, {}}}, {nil, [][]int{{}, {}, ones(10)}},
		{nil, [][]int{{1}, {1}, {1}, {1}, {1}, {}}}, {nil, [][]int{{}, {}, {}, {}, {}, ones(5)}}, {nil, [][]int{{}, {3, 3}, {}, {}, {}}},
		{[]int{4, 3, 2, 1}, [][]int{{10}, {}}}, {[]int{4, 3, 2, 1}, [][]int{{}, ones(10)}}, {[]int{7, 6, 5, 4, 3, 2, 1}, [][]int{{}, {1}}},
		{[]int{3, 2, 1}, [][]int{ones(12), {}}}, {[]int{2}, [][]int{{}, {}, {}, ones(7)}}, {[]int{3, 2, 1}, [][]int{{}, {}, {}, {6}}},
	}
	for _, of := range fits {
		from := fmt.Sprint(of.core, " and ", of.quotient)
		size := len(of.quotient)
		p, ok := impl.FromCore(of.core, of.quotient)
		wantValue(t, "cells with", from, cellsIn(p), 30, ok)
		wantRows(t, "quotient again", from, quotientByBorder(p, size), of.quotient, ok)
		wantList(t, "core again", from, descentOf(p, size).core, of.core, ok)
		for at := range size {
			more := slices.Clone(of.quotient)
			more[at] = append(slices.Clone(more[at]), 1)
			p, ok := impl.FromCore(of.core, more)
			wantNoList(t, "partition with", fmt.Sprint(of.core, " and ", more), p, ok)
		}
	}
	for _, core := range [][]int{nil, {1}, {4, 3, 2, 1}, {7, 6, 5, 4, 3, 2, 1}} {
		for _, p := range [][]int{{16}, ones(16), {30}, ones(30), {15, 15}} {
			for _, quotient := range [][][]int{{p, {}}, {{}, p}, {p, p}} {
				made, ok := impl.FromCore(core, quotient)
				wantNoList(t, "partition with", fmt.Sprint(core, " and ", quotient), made, ok)
			}
			made, ok := impl.FromCore(nil, slices.Repeat([][]int{p}, 6))
			wantNoList(t, "partition with 6 times", p, made, ok)
		}
	}
}

func TestCoreNoCore(t *testing.T) {
	eachSized(func(p []int, size int) {
		if isCoreOf(p, size) {
			return
		}
		from := fmt.Sprint(p, " for ", size)
		made, ok := impl.FromCore(p, make([][]int, size))
		wantNoList(t, "partition with the core", from, made, ok)
		for weight := range 5 {
			block, ok := impl.BlockOf(p, size, weight)
			wantNoRows(t, "block", from, block, ok)
		}
	})
	// a core for 3, but none for 2
	made, ok := impl.FromCore([]int{2}, [][]int{{1}, {}})
	wantNoList(t, "partition with the core", "2 for 2", made, ok)
	made, ok = impl.FromCore([]int{2}, [][]int{{1}, {}, {}})
	wantList(t, "partition with the core", "2 for 3", made, []int{2, 2, 1}, ok)
}

func TestCoreRunEdges(t *testing.T) {
	// the longest runs there are
	for _, p := range [][]int{{30}, ones(30), {15, 15}} {
		trail, ok := impl.RunOf(p, 2, make([]int, 15))
		if !ok || len(trail) != 16 || len(trail[15]) != 0 {
			t.Error("run of 15 steps", p, trail, ok)
		}
		wantNoRun(t, p, 2, make([]int, 16))
	}
	sign, ok := impl.SignOfRun([]int{30}, 2, make([]int, 15))
	wantValue(t, "sign of 15 steps", "30", sign, 1, ok)
	sign, ok = impl.SignOfRun(ones(30), 2, make([]int, 15))
	wantValue(t, "sign of 15 steps", "30 parts 1", sign, -1, ok)
	// No partition has so many rims, one after the other.
	for _, p := range [][]int{nil, {1}, {4, 2, 1}, {30}, ones(30)} {
		for _, steps := range []int{impl.MaxRuns, impl.MaxRuns + 1, 100000} {
			wantNoRun(t, p, 2, make([]int, steps))
		}
	}
}

func TestCoreRunChoices(t *testing.T) {
	p := []int{4, 2, 1}
	for _, choice := range []int{1, 2, -1, 1 << 32, math.MinInt, math.MaxInt} {
		wantNoRun(t, p, 3, []int{choice})
		wantNoRun(t, p, 3, []int{choice, 0})
		wantNoRun(t, p, 3, []int{0, choice})
		wantNoRun(t, p, 3, []int{0, 0, choice})
	}
	wantNoRun(t, p, 3, []int{0, 0, 0})
	// Two rims for the first two steps, and one for the last one.
	q := []int{3, 3}
	trail, ok := impl.RunOf(q, 2, []int{0, 1, 0})
	wantRows(t, "run by 0 1 0", q, trail, [][]int{{3, 3}, {2, 2}, {2}, {}}, ok)
	sign, ok := impl.SignOfRun(q, 2, []int{0, 1, 0})
	wantValue(t, "sign of run by 0 1 0", q, sign, -1, ok)
	wantNoRun(t, q, 2, []int{0, 1, 1})
	wantNoRun(t, q, 2, []int{2, 1, 0})
	wantNoRun(t, q, 2, []int{0, 2, 0})
}

// No partition of at most MaxCells cells has more than 1000000000000 runs; this one has the most.
func TestCoreMostRuns(t *testing.T) {
	p := []int{8, 8, 4, 4, 2, 2, 2}
	runs, ok := impl.CountRuns(p, 2)
	wantValue(t, "runs", p, runs, 20270250, ok)
	eachPartition(func(q []int, size int) {
		if runs := descentOf(q, size).runs; runs > 20270250 {
			t.Errorf("%v has %d runs for %d", q, runs, size)
		}
	})
}

func TestCoreBlockEdges(t *testing.T) {
	for size := 2; size <= impl.MaxRunners; size++ {
		for _, core := range [][]int{nil, {1}} {
			block, ok := impl.BlockOf(core, size, 0)
			wantRows(t, "block with the weight 0", core, block, [][]int{core}, ok)
			block, ok = impl.BlockOf(core, size, 4)
			wantValue(t, "block with the weight 4", core, len(block), len(quotients(size, 4)), ok)
			for _, weight := range []int{5, 6, -1, -4, 1 << 32, math.MinInt, math.MaxInt} {
				block, ok = impl.BlockOf(core, size, weight)
				wantNoRows(t, fmt.Sprint("block with the weight ", weight), core, block, ok)
			}
		}
	}
	// 28 and 2 times the weight
	core := []int{7, 6, 5, 4, 3, 2, 1}
	block, ok := impl.BlockOf(core, 2, 1)
	wantRows(t, "block of 30 cells", core, block, [][]int{{9, 6, 5, 4, 3, 2, 1}, {7, 6, 5, 4, 3, 2, 1, 1, 1}}, ok)
	for _, weight := range []int{2, 3, 4} {
		block, ok := impl.BlockOf(core, 2, weight)
		wantNoRows(t, "block of more than 30 cells", core, block, ok)
	}
	// 10 or 11 cells, and 5 times the weight 4
	for n, want := range map[int]int{10: len(quotients(5, 4)), 11: 0} {
		at := slices.IndexFunc(partitions(n), func(p []int) bool { return isCoreOf(p, 5) })
		core := partitions(n)[at]
		block, ok := impl.BlockOf(core, 5, 4)
		if ok != (want > 0) || len(block) != want {
			t.Errorf("block of %v for 5: %d partitions %v, want %d", core, len(block), ok, want)
		}
	}
}
