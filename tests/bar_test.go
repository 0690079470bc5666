package tests

import (
	"fmt"
	"slices"
	"testing"

	"loop.example/g01136/impl"
)

// Promise 7: all strict partitions of small numbers of cells and both sizes, against the model.

func TestBarExample(t *testing.T) {
	p := []int{5, 2, 1}
	isStrict, ok := impl.IsStrict(p)
	wantValue(t, "whether strict", p, isStrict, true, ok)
	bars, ok := impl.BarsOf(p, 3)
	wantRows(t, "3-bars", p, bars, [][]int{{2, 1}}, ok)
	left, ok := impl.TakeBar(p, 3, 0)
	wantList(t, "without the bar", p, left, []int{5}, ok)
	left, ok = impl.TakeBar(left, 3, 0)
	wantList(t, "without the bar", "5", left, []int{2}, ok)
	core, ok := impl.BarCore(p, 3)
	wantList(t, "bar core", p, core, []int{2}, ok)
	weight, ok := impl.BarWeight(p, 3)
	wantValue(t, "bar weight", p, weight, 2, ok)
	isCore, ok := impl.IsBarCore(p, 3)
	wantValue(t, "whether bar core", p, isCore, false, ok)
	isCore, ok = impl.IsBarCore(core, 3)
	wantValue(t, "whether bar core", core, isCore, true, ok)
	double, ok := impl.DoubleOf([]int{2, 1})
	wantList(t, "double", "2 1", double, []int{3, 3}, ok)
	strict, ok := impl.FromDouble([]int{3, 3})
	wantList(t, "from the double", "3 3", strict, []int{2, 1}, ok)
	isDouble, ok := impl.IsDouble([]int{3, 3})
	wantValue(t, "whether double", "3 3", isDouble, true, ok)
	lengths, ok := impl.BarLengths([]int{2, 1})
	wantRows(t, "bar lengths", "2 1", lengths, [][]int{{3, 2}, {1}}, ok)
	number, ok := impl.CountShifted([]int{2, 1})
	wantValue(t, "ways to put cells in", "2 1", number, 1, ok)
	odd, ok := impl.OddFromStrict(p)
	wantList(t, "odd parts", p, odd, []int{5, 1, 1, 1}, ok)
	strict, ok = impl.StrictFromOdd(odd)
	wantList(t, "strict partition", odd, strict, p, ok)
}

func TestBarStrict(t *testing.T) {
	for n := 0; n <= impl.MaxCells; n++ {
		for _, p := range partitions(n) {
			isStrict, ok := impl.IsStrict(p)
			wantValue(t, "whether strict", p, isStrict, isStrictBySet(p), ok)
		}
	}
}

func TestBarListsAndCounts(t *testing.T) {
	for n := 0; n <= impl.MaxStrict; n++ {
		list, ok := impl.AllStrict(n)
		wantRows(t, "strict partitions", n, list, strictPartitions(n), ok)
	}
	for n := 0; n <= impl.MaxCells; n++ {
		number, ok := impl.CountStrict(n)
		wantValue(t, "number of strict partitions", n, number, len(strictPartitions(n)), ok)
	}
}

func TestBarBars(t *testing.T) {
	eachStrict(impl.MaxCells, func(p []int) {
		for _, size := range barSizes() {
			var want [][]int
			taken := barsBySets(p, size)
			for k, bar := range taken {
				want = append(want, bar.parts)
				left, ok := impl.TakeBar(p, size, k)
				wantList(t, fmt.Sprint("without the ", size, "-bar ", bar.parts), p, left, bar.left, ok)
			}
			bars, ok := impl.BarsOf(p, size)
			wantRows(t, fmt.Sprint(size, "-bars"), p, bars, want, ok)
			left, ok := impl.TakeBar(p, size, len(taken))
			wantNoList(t, fmt.Sprint("without one bar too many for ", size), p, left, ok)
			isCore, ok := impl.IsBarCore(p, size)
			wantValue(t, fmt.Sprint("whether bar core for ", size), p, isCore, len(taken) == 0, ok)
		}
	})
}

func TestBarCores(t *testing.T) {
	eachStrict(impl.MaxCells, func(p []int) {
		for _, size := range barSizes() {
			want := barDescentOf(p, size)
			core, ok := impl.BarCore(p, size)
			wantList(t, fmt.Sprint("bar core for ", size), p, core, want.core, ok && !want.differ)
			weight, ok := impl.BarWeight(p, size)
			wantValue(t, fmt.Sprint("bar weight for ", size), p, weight, want.weight, ok && !want.differ)
			isCore, ok := impl.IsBarCore(core, size)
			wantValue(t, fmt.Sprint("whether bar core for ", size), core, isCore, true, ok)
			wantValue(t, fmt.Sprint("cells without the bars for ", size), p, sumOf(core)+size*weight, sumOf(p), true)
		}
	})
}

// Whatever bars the program takes away, one after the other, the bar core and their number are the same.
func TestBarAllWays(t *testing.T) {
	eachStrict(20, func(p []int) {
		for _, size := range barSizes() {
			core, _ := impl.BarCore(p, size)
			weight, _ := impl.BarWeight(p, size)
			if ways := takeAllBars(t, p, size, core, weight); ways != barDescentOf(p, size).ways {
				t.Errorf("ways to take %d-bars away from %v: %d, want %d", size, p, ways, barDescentOf(p, size).ways)
			}
		}
	})
}

// takeAllBars returns in how many ways the program takes so many bars away until the core is left.
func takeAllBars(t *testing.T, p []int, size int, core []int, weight int) int {
	t.Helper()
	bars, ok := impl.BarsOf(p, size)
	if len(bars) == 0 {
		wantList(t, fmt.Sprint("left without all bars for ", size), p, p, core, ok)
		wantValue(t, fmt.Sprint("number of bars more for ", size), p, weight, 0, ok)
		return 1
	}
	ways := 0
	for k := range bars {
		left, ok := impl.TakeBar(p, size, k)
		wantValue(t, fmt.Sprint("cells without a bar for ", size), p, sumOf(left), sumOf(p)-size, ok)
		ways += takeAllBars(t, left, size, core, weight-1)
	}
	return ways
}

func TestBarDoubles(t *testing.T) {
	eachStrict(15, func(p []int) {
		q, fits := read(doubleByCells(p))
		double, ok := impl.DoubleOf(p)
		wantList(t, "double", p, double, q, ok && fits)
		wantValue(t, "cells of the double", p, sumOf(double), 2*sumOf(p), true)
		columns := turned(double)
		for i, part := range p {
			wantValue(t, fmt.Sprint("row of the double ", i), p, double[i], part+i+1, true)
			wantValue(t, fmt.Sprint("column of the double ", i), p, columns[i], part+i, true)
		}
		strict, ok := impl.FromDouble(double)
		wantList(t, "from the double", double, strict, p, ok)
	})
}

// All partitions there are, most of which are no doubles.
func TestBarFromAllPartitions(t *testing.T) {
	for n := 0; n <= impl.MaxCells; n++ {
		doubles := doublesByList(n)
		for _, q := range partitions(n) {
			p, want := doubles[fmt.Sprint(q)]
			isDouble, ok := impl.IsDouble(q)
			wantValue(t, "whether double", q, isDouble, want, ok)
			strict, ok := impl.FromDouble(q)
			if want {
				wantList(t, "from the double", q, strict, p, ok)
			} else {
				wantNoList(t, "from the double", q, strict, ok)
			}
		}
	}
}

// The core of the double is the double of the bar core, with twice as many rims.
func TestBarCoresOfDoubles(t *testing.T) {
	eachStrict(15, func(p []int) {
		double, _ := impl.DoubleOf(p)
		for _, size := range barSizes() {
			core, _ := impl.BarCore(p, size)
			want, ok := impl.DoubleOf(core)
			got, ok2 := impl.CoreOf(double, size)
			wantList(t, fmt.Sprint("core of the double for ", size), p, got, want, ok && ok2)
			wantList(t, fmt.Sprint("core of the double by rims for ", size), p, descentOf(double, size).core, want, ok)
			weight, ok := impl.BarWeight(p, size)
			wantValue(t, fmt.Sprint("rims of the double for ", size), p, descentOf(double, size).weight, 2*weight, ok)
		}
	})
}

func TestBarLengths(t *testing.T) {
	eachStrict(impl.MaxCells, func(p []int) {
		lengths, ok := impl.BarLengths(p)
		wantRows(t, "bar lengths", p, lengths, barLengthsByBars(p), ok)
		if sumOf(p) <= 15 {
			wantRows(t, "bar lengths", p, lengths, barLengthsByDouble(p), ok)
		}
		for i, row := range lengths {
			wantValue(t, fmt.Sprint("number of the bar lengths of part ", i), p, len(row), p[i], ok)
		}
	})
}

// As many bar lengths are divided by the size as bars are taken away.
func TestBarLengthsDivisible(t *testing.T) {
	eachStrict(impl.MaxCells, func(p []int) {
		lengths, _ := impl.BarLengths(p)
		for _, size := range barSizes() {
			divisible := 0
			for _, length := range slices.Concat(lengths...) {
				if length%size == 0 {
					divisible++
				}
			}
			weight, ok := impl.BarWeight(p, size)
			wantValue(t, fmt.Sprint("bar weight for ", size), p, weight, divisible, ok)
		}
	})
}

func TestBarShiftedCounts(t *testing.T) {
	eachStrict(15, func(p []int) {
		number, ok := impl.CountShifted(p)
		wantValue(t, "ways to put cells in", p, number, shiftedDown(p), ok)
	})
}

func TestBarOddParts(t *testing.T) {
	eachStrict(impl.MaxCells, func(p []int) {
		odd, ok := impl.OddFromStrict(p)
		wantList(t, "odd parts", p, odd, halved(p), ok)
		strict, ok := impl.StrictFromOdd(odd)
		wantList(t, "strict partition", odd, strict, p, ok)
	})
}

// All partitions there are: those into odd parts alone, as many as strict ones, and others.
func TestBarStrictFromAllPartitions(t *testing.T) {
	for n := 0; n <= impl.MaxCells; n++ {
		count := 0
		for _, p := range partitions(n) {
			strict, ok := impl.StrictFromOdd(p)
			if !areOdd(p) {
				wantNoList(t, "strict partition", p, strict, ok)
				continue
			}
			count++
			wantList(t, "strict partition", p, strict, joined(p), ok)
			odd, ok := impl.OddFromStrict(strict)
			wantList(t, "odd parts", strict, odd, p, ok)
		}
		number, ok := impl.CountStrict(n)
		wantValue(t, "number of strict partitions", n, number, count, ok)
	}
}
