package tests

import (
	"math"
	"slices"
	"strings"
	"testing"

	"loop.example/g01136/impl"
)

// Promise 1: the edges that the chapter names, and invalid arguments.

func TestPartLimits(t *testing.T) {
	if impl.MaxCells != 30 || impl.MaxListedCells != 14 {
		t.Error("limits", impl.MaxCells, impl.MaxListedCells)
	}
}

func TestPartNoCells(t *testing.T) {
	for _, p := range [][]int{nil, {}} {
		if !impl.IsPartition(p) {
			t.Error("the empty list is a partition")
		}
		cells, ok := impl.CellsOf(p)
		wantValue(t, "cells", p, cells, 0, ok)
		turn, ok := impl.ConjugateOf(p)
		wantList(t, "conjugate", p, turn, nil, ok)
		hooks, ok := impl.HooksOf(p)
		wantRows(t, "hooks", p, hooks, nil, ok)
		contents, ok := impl.ContentsOf(p)
		wantRows(t, "contents", p, contents, nil, ok)
		word, ok := impl.BorderWord(p)
		wantValue(t, "border", p, word, "", ok)
		corners, ok := impl.CornersOf(p)
		wantList(t, "corners", p, corners, nil, ok)
		addable, ok := impl.AddableOf(p)
		wantList(t, "addable", p, addable, []int{0}, ok)
		rank, ok := impl.RankPartition(p)
		wantValue(t, "rank", p, rank, 0, ok)
		text, ok := impl.PartText(p)
		wantValue(t, "text", p, text, "0", ok)
		inside, ok := impl.IsInside(p, []int{1})
		wantValue(t, "inside 1", p, inside, true, ok)
		inside, ok = impl.IsInside([]int{1}, p)
		wantValue(t, "1 inside", p, inside, false, ok)
		inside, ok = impl.IsInside(p, p)
		wantValue(t, "inside itself", p, inside, true, ok)
		wantNoCell(t, p, 0, 0)
	}
	p, ok := impl.FromBorder("")
	wantList(t, "partition with border", "", p, nil, ok)
	p, ok = impl.ParsePart("0")
	wantList(t, "partition with text", "0", p, nil, ok)
	p, ok = impl.PartitionWith(0, 0)
	wantList(t, "partition of", "0 cells", p, nil, ok)
	list, ok := impl.AllPartitions(0)
	wantRows(t, "all", 0, list, [][]int{{}}, ok)
}

// wantNoCell calls what requires a cell with one that is none.
func wantNoCell(t *testing.T, p []int, r, c int) {
	t.Helper()
	at := [2]int{r, c}
	hook, ok := impl.HookAt(p, r, c)
	wantNoValue(t, "hook", at, hook, ok)
	rim, ok := impl.RimHook(p, r, c)
	wantNoRows(t, "rim", at, rim, ok)
	left, leg, ok := impl.WithoutRim(p, r, c)
	wantNoList(t, "without rim", at, left, ok)
	wantNoValue(t, "leg", at, leg, ok)
}

func TestPartNoCellsThere(t *testing.T) {
	p := []int{4, 2, 1}
	outside := [][2]int{
		{-1, 0}, {0, -1}, {-1, -1}, {0, 4}, {1, 2}, {1, 3}, {2, 1}, {3, 0}, {3, -1}, {0, 30},
		{math.MinInt, 0}, {0, math.MinInt}, {math.MaxInt, 0}, {0, math.MaxInt},
		{math.MaxInt, math.MaxInt}, {math.MinInt, math.MinInt},
	}
	for _, at := range outside {
		wantNoCell(t, p, at[0], at[1])
	}
}

// notPartitions returns lists that are no partitions, each for one reason.
func notPartitions() [][]int {
	return [][]int{
		{1, 2}, {3, 1, 2}, {2, 3, 1}, {5, 5, 6}, {1, 29},
		{0}, {0, 0}, {3, 0}, {2, 0, 1}, {0, 1},
		{-1}, {3, -1}, {31, -1}, {-1, -2}, {2, 1, -3},
		{31}, {30, 1}, {16, 15}, {15, 15, 1}, {1000}, ones(31), slices.Repeat([]int{2}, 16), slices.Repeat([]int{30}, 30),
		ones(100000),
		{math.MaxInt}, {math.MaxInt, 1}, {math.MaxInt, math.MaxInt}, {math.MaxInt, math.MaxInt, 2}, {math.MaxInt, math.MaxInt, 3},
		{math.MinInt}, {1, math.MinInt}, {math.MinInt, math.MinInt},
		slices.Repeat([]int{1 << 62}, 4), {math.MaxInt, math.MinInt}, {math.MaxInt, math.MinInt, 2}, {5, math.MaxInt},
	}
}

func TestPartInvalid(t *testing.T) {
	for _, p := range notPartitions() {
		if impl.IsPartition(p) {
			t.Errorf("%v is no partition", p)
		}
		cells, ok := impl.CellsOf(p)
		wantNoValue(t, "cells", p, cells, ok)
		list, ok := impl.ConjugateOf(p)
		wantNoList(t, "conjugate", p, list, ok)
		rows, ok := impl.HooksOf(p)
		wantNoRows(t, "hooks", p, rows, ok)
		rows, ok = impl.ContentsOf(p)
		wantNoRows(t, "contents", p, rows, ok)
		word, ok := impl.BorderWord(p)
		wantNoValue(t, "border", p, word, ok)
		list, ok = impl.CornersOf(p)
		wantNoList(t, "corners", p, list, ok)
		list, ok = impl.AddableOf(p)
		wantNoList(t, "addable", p, list, ok)
		for _, q := range [][]int{{}, {1}, {30}, {4, 2, 1}, p} {
			inside, ok := impl.IsInside(p, q)
			wantNoValue(t, "inside", p, inside, ok)
			inside, ok = impl.IsInside(q, p)
			wantNoValue(t, "around", p, inside, ok)
		}
		rank, ok := impl.RankPartition(p)
		wantNoValue(t, "rank", p, rank, ok)
		text, ok := impl.PartText(p)
		wantNoValue(t, "text", p, text, ok)
		wantNoCell(t, p, 0, 0)
		wantNoCell(t, p, 1, 0)
	}
}

func TestPartMostCells(t *testing.T) {
	for _, p := range [][]int{{30}, ones(30), {15, 15}, {29, 1}, {16, 14}, {10, 10, 10}, {8, 7, 6, 5, 4}} {
		if !impl.IsPartition(p) {
			t.Errorf("%v is a partition", p)
		}
		cells, ok := impl.CellsOf(p)
		wantValue(t, "cells", p, cells, impl.MaxCells, ok)
		more := slices.Clone(p)
		more[0]++
		if impl.IsPartition(more) || impl.IsPartition(append(slices.Clone(p), 1)) {
			t.Errorf("%v with one cell more is no partition", p)
		}
	}
	addable, ok := impl.AddableOf([]int{30})
	wantList(t, "addable", "30", addable, []int{0, 1}, ok)
	addable, ok = impl.AddableOf(ones(30))
	wantList(t, "addable", "30 parts 1", addable, []int{0, 30}, ok)
	addable, ok = impl.AddableOf([]int{15, 15})
	wantList(t, "addable", "15 15", addable, []int{0, 2}, ok)
}

func TestPartBorderEdges(t *testing.T) {
	row, column := strings.Repeat("R", 30)+"U", "R"+strings.Repeat("U", 30)
	p, ok := impl.FromBorder(row)
	wantList(t, "partition with border", row, p, []int{30}, ok)
	p, ok = impl.FromBorder(column)
	wantList(t, "partition with border", column, p, ones(30), ok)
	none := []string{
		// the ends
		"R", "U", "UR", "UU", "RR", "RUR", "URU", "UURU", "RURR", "URUR",
		// other letters
		"r", "ru", "RuU", "RxU", "R U", "RU\n", " RU", "RU ", "R\x00U", "R\xd5U", "RÜU", "R\xffU", "0", "-",
		// too many cells
		"R" + row, column + "U", strings.Repeat("R", 15) + "UUU",
		// 2 MaxCells letters and more
		strings.Repeat("RU", 30), strings.Repeat("R", 59) + "U", "R" + strings.Repeat("U", 59), strings.Repeat("R", 30) + strings.Repeat("U", 30),
		strings.Repeat("RU", 30) + "U", strings.Repeat("R", 60) + "U", "R" + strings.Repeat("U", 60),
		strings.Repeat("R", 60), strings.Repeat("U", 60), strings.Repeat("U", 61), strings.Repeat("RU", 1000000),
	}
	for _, w := range none {
		p, ok := impl.FromBorder(w)
		wantNoList(t, "partition with border", w, p, ok)
	}
}

func TestPartNumberEdges(t *testing.T) {
	count, ok := impl.CountPartitions(0)
	wantValue(t, "count", 0, count, 1, ok)
	count, ok = impl.CountPartitions(30)
	wantValue(t, "count", 30, count, 5604, ok)
	list, ok := impl.AllPartitions(14)
	wantValue(t, "all", 14, len(list), 135, ok)
	list, ok = impl.AllPartitions(15)
	wantNoRows(t, "all", 15, list, ok)
	list, ok = impl.AllPartitions(30)
	wantNoRows(t, "all", 30, list, ok)
	for _, n := range []int{-1, 31, -30, math.MinInt, math.MaxInt, 1 << 32, -1 << 32} {
		count, ok := impl.CountPartitions(n)
		wantNoValue(t, "count", n, count, ok)
		list, ok := impl.AllPartitions(n)
		wantNoRows(t, "all", n, list, ok)
		for _, rank := range []int{0, -1, 1, math.MinInt, math.MaxInt} {
			p, ok := impl.PartitionWith(n, rank)
			wantNoList(t, "partition with", [2]int{n, rank}, p, ok)
		}
	}
}

func TestPartRankEdges(t *testing.T) {
	first, ok := impl.PartitionWith(30, 0)
	wantList(t, "partition with", "30 0", first, []int{30}, ok)
	last, ok := impl.PartitionWith(30, 5603)
	wantList(t, "partition with", "30 5603", last, ones(30), ok)
	for _, rank := range []int{5604, 5605, -1, 1 << 32, math.MinInt, math.MaxInt} {
		p, ok := impl.PartitionWith(30, rank)
		wantNoList(t, "partition of 30 with", rank, p, ok)
		p, ok = impl.PartitionWith(0, rank)
		wantNoList(t, "partition of 0 with", rank, p, ok)
	}
	p, ok := impl.PartitionWith(0, 1)
	wantNoList(t, "partition of 0 with", 1, p, ok)
}

func TestPartTextEdges(t *testing.T) {
	longest := strings.Repeat("1+", 29) + "1"
	p, ok := impl.ParsePart(longest)
	wantList(t, "partition with text", longest, p, ones(30), ok)
	p, ok = impl.ParsePart("30")
	wantList(t, "partition with text", "30", p, []int{30}, ok)
	p, ok = impl.ParsePart("10+10+10")
	wantList(t, "partition with text", "10+10+10", p, []int{10, 10, 10}, ok)
	none := []string{
		"", " ", "+", "++", "1+", "+1", "1++1", "2+1+", "+2+1", "0+0", "1+0", "0+1", "00", "+0", "-0", "0+",
		"01", "2+01", "1 ", " 1", "1 +1", "1+ 1", "1-1", "-1", "1+-1", "1,1", "1 1", "x", "1+x", "1x", "0x1", "1_0", "1e1", "1.0", "1\n", "\n", "1\x00", "-", "１", "[1]",
		"1+2", "3+1+2", "31", "30+1", "16+15", longest + "+1", "100",
		"9223372036854775807", "9223372036854775808", "18446744073709551617", "-9223372036854775808", "9223372036854775807+9223372036854775807",
		"99999999999999999999999999999999999999999999999", strings.Repeat("1+", 1000000) + "1", strings.Repeat("0", 1000000) + "1", strings.Repeat("+", 1000000),
	}
	for _, s := range none {
		p, ok := impl.ParsePart(s)
		wantNoList(t, "partition with text", s[:min(len(s), 60)], p, ok)
	}
}
