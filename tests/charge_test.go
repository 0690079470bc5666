package tests

import (
	"fmt"
	"slices"
	"testing"

	"loop.example/g01136/impl"
)

// Promise 4: ordinary partitions and levels, with all numbers of runners, against the beads, cells and series of the model.

func TestChargeExample(t *testing.T) {
	p := []int{2, 1}
	levels, ok := impl.LevelsOf(p, 2)
	wantList(t, "levels", p, levels, []int{-1, 1}, ok)
	size, ok := impl.SizeOfLevels(levels)
	wantValue(t, "size", levels, size, 3, ok)
	core, ok := impl.CoreOfLevels(levels)
	wantList(t, "core", levels, core, p, ok)
	word, ok := impl.CoreWord(p, 2)
	wantList(t, "word", p, word, []int{1, 0}, ok)
	made, ok := impl.CoreByWord(2, []int{0, 1})
	wantList(t, "core by word", "0 1", made, p, ok)
	counts := []int{1, 1, 2, 0, 2, 1}
	series, ok := impl.CoresBySeries(3, 5)
	wantList(t, "series", "3 and 5", series, counts, ok)
	for n, want := range counts {
		count, ok := impl.CountCores(3, n)
		wantValue(t, "number of cores for 3 with cells", n, count, want, ok)
	}
	cores, ok := impl.CoresWith(3, 4)
	wantRows(t, "cores for 3", 4, cores, [][]int{{3, 1}, {2, 1, 1}}, ok)
	lists, ok := impl.LevelsWith(2, 3)
	wantRows(t, "levels for 2", 3, lists, [][]int{{-1, 1}}, ok)
	residues, ok := impl.ResidueCounts(p, 2)
	wantList(t, "residues", p, residues, []int{1, 2}, ok)
	levels, ok = impl.LevelsFromCounts(residues)
	wantList(t, "levels from counts", residues, levels, []int{-1, 1}, ok)
	turned, ok := impl.TurnLevels(levels)
	wantList(t, "turned levels", levels, turned, []int{-1, 1}, ok)
	reflected, ok := impl.ReflectLevels(levels, 0)
	wantList(t, "levels reflected at 0", levels, reflected, []int{2, -2}, ok)
	core, ok = impl.ReflectCore(p, 2, 0)
	wantList(t, "core reflected at 0", p, core, []int{3, 2, 1}, ok)
}

func TestChargeLevelsOfAllPartitions(t *testing.T) {
	eachPartition(func(p []int, size int) {
		from := fmt.Sprint(p, " and ", size)
		want := levelsByBeads(p, size)
		levels, ok := impl.LevelsOf(p, size)
		wantList(t, "levels", from, levels, want, ok)
		if !impl.IsLevels(levels) {
			t.Errorf("levels of %s are no levels", from)
		}
		counts, ok := impl.ResidueCounts(p, size)
		wantList(t, "residues", from, counts, residuesByCells(p, size), ok)
		again, ok := impl.LevelsFromCounts(counts)
		wantList(t, "levels from residues", from, again, want, ok)
	})
}

// A partition has the levels of its core, which are those with which the core is made, and turned ones for the conjugate.
func TestChargeLevelsOfCoresAndConjugates(t *testing.T) {
	eachSized(func(p []int, size int) {
		from := fmt.Sprint(p, " and ", size)
		levels, _ := impl.LevelsOf(p, size)
		want := descentOf(p, size).core
		ofCore, ok := impl.LevelsOf(want, size)
		wantList(t, "levels of the core", from, ofCore, levels, ok)
		core, ok := impl.CoreOfLevels(levels)
		wantList(t, "core with its levels", from, core, want, ok)
		n, ok := impl.SizeOfLevels(levels)
		wantValue(t, "cells of the core", from, n, sumOf(want), ok)
		turnedLevels, ok := impl.TurnLevels(levels)
		wantList(t, "turned levels", from, turnedLevels, levelsByBeads(turned(p), size), ok)
	})
}

func TestChargeSmallLevels(t *testing.T) {
	eachLevels(func(levels []int) {
		if !impl.IsLevels(levels) {
			t.Errorf("%v are levels", levels)
		}
		want := coreByBeads(levels)
		n, ok := impl.SizeOfLevels(levels)
		wantValue(t, "size", levels, n, sumOf(want), ok)
		core, ok := impl.CoreOfLevels(levels)
		if sumOf(want) > impl.MaxCells {
			wantNoList(t, "core", levels, core, ok)
			return
		}
		wantList(t, "core", levels, core, want, ok)
		again, ok := impl.LevelsOf(want, len(levels))
		wantList(t, "levels of the core", levels, again, levels, ok)
		isCore, ok := impl.IsCore(core, len(levels))
		wantValue(t, "core is core", levels, isCore, true, ok)
	})
}

func TestChargeTurnedAndReflectedLevels(t *testing.T) {
	eachLevels(func(levels []int) {
		size, core := len(levels), coreByBeads(levels)
		back := slices.Clone(levels)
		slices.Reverse(back)
		for i := range back {
			back[i] = -back[i]
		}
		got, ok := impl.TurnLevels(levels)
		wantList(t, "turned levels", levels, got, back, ok)
		twice, ok := impl.TurnLevels(got)
		wantList(t, "levels turned twice", levels, twice, levels, ok)
		for i := range size {
			from := fmt.Sprint(levels, " at ", i)
			got, ok := impl.ReflectLevels(levels, i)
			wantList(t, "reflected levels", from, got, reflectedByHand(levels, i), ok)
			twice, ok := impl.ReflectLevels(got, i)
			wantList(t, "levels reflected twice", from, twice, levels, ok)
			if sumOf(core) <= impl.MaxCells {
				reflected, _ := reflectedByCells(core, size, i)
				wantList(t, "levels of the reflected core", from, coreByBeads(got), reflected, ok)
			}
		}
	})
}

func reflectedByHand(levels []int, i int) []int {
	size := len(levels)
	list := slices.Clone(levels)
	list[i], list[mod(i-1, size)] = levels[mod(i-1, size)], levels[i]
	if i == 0 {
		list[0]++
		list[size-1]--
	}
	return list
}

// Levels, lists and the recurrence count the same cores.
func TestChargeCountedCores(t *testing.T) {
	for size := 2; size <= impl.MaxRunners; size++ {
		var counts []int
		for n := range impl.MaxCells + 1 {
			from := fmt.Sprint(n, " cells for ", size)
			want := coresByList(size, n)
			counts = append(counts, len(want))
			cores, ok := impl.CoresWith(size, n)
			wantRows(t, "cores", from, cores, want, ok)
			number, ok := impl.CountCores(size, n)
			wantValue(t, "number of cores", from, number, len(want), ok)
			var levels [][]int
			for _, p := range want {
				levels = append(levels, levelsByBeads(p, size))
			}
			slices.SortFunc(levels, slices.Compare[[]int])
			lists, ok := impl.LevelsWith(size, n)
			wantRows(t, "levels", from, lists, levels, ok)
			series, ok := impl.CoresBySeries(size, n)
			wantList(t, "series against lists", from, series, counts, ok)
			wantList(t, "series against products", from, series, seriesByProduct(size, n), ok)
		}
	}
}

func TestChargeReflectedCores(t *testing.T) {
	mostCells := 0
	eachCore(func(p []int, size int) {
		levels := levelsByBeads(p, size)
		for i := range size {
			from := fmt.Sprint(p, " and ", size, " at ", i)
			want, _ := reflectedByCells(p, size, i)
			got, ok := impl.ReflectCore(p, size, i)
			if sumOf(want) > impl.MaxCells {
				wantNoList(t, "reflected core", from, got, ok)
				continue
			}
			if sumOf(want) == impl.MaxCells {
				mostCells++
			}
			wantList(t, "reflected core", from, got, want, ok)
			again, ok := impl.ReflectCore(got, size, i)
			wantList(t, "core reflected twice", from, again, p, ok)
			reflected, ok := impl.ReflectLevels(levels, i)
			wantList(t, "reflected levels", from, reflected, levelsByBeads(want, size), ok)
		}
	})
	if mostCells == 0 {
		t.Error("no reflected core has exactly 30 cells")
	}
}

func TestChargeCoreWords(t *testing.T) {
	eachCore(func(p []int, size int) {
		from := fmt.Sprint(p, " and ", size)
		want := wordByCells(p, size)
		word, ok := impl.CoreWord(p, size)
		wantList(t, "word", from, word, want, ok)
		slices.Reverse(want)
		again, ok := impl.CoreByWord(size, want)
		wantList(t, "core by the word from its end", from, again, p, ok)
	})
}

// Words of all kinds, many of which add and take away in turn, or do nothing at some step.
func TestChargeCoresByWords(t *testing.T) {
	for size := 2; size <= impl.MaxRunners; size++ {
		words := [][]int{nil}
		for length := 0; len(words) < 1000; length++ {
			for _, word := range words {
				checkWord(t, size, word)
			}
			words = longerWords(words, size)
		}
		for factor := range 60 {
			checkWord(t, size, mixedWord(size, factor))
		}
	}
}

func longerWords(words [][]int, size int) [][]int {
	var longer [][]int
	for _, word := range words {
		for i := range size {
			longer = append(longer, append(slices.Clone(word), i))
		}
	}
	return longer
}

// mixedWord returns 40 or fewer residues that follow no simple rule.
func mixedWord(size, factor int) []int {
	var word []int
	at := factor + 1
	for range 40 - factor%9 {
		at = (at*(25+factor) + 7) % 1009
		word = append(word, at%size)
	}
	return word
}

func checkWord(t *testing.T, size int, word []int) {
	t.Helper()
	from := fmt.Sprint(word, " for ", size)
	want, fits := madeByCells(size, word)
	got, ok := impl.CoreByWord(size, word)
	if fits {
		wantList(t, "core by word", from, got, want, ok)
	} else {
		wantNoList(t, "core by word", from, got, ok)
	}
}
