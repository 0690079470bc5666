package tests

import (
	"fmt"
	"math"
	"slices"
	"testing"

	"loop.example/g01136/impl"
)

// Promise 4: the edges that the chapter names or that its limits make, and invalid arguments.

func TestChargeLimits(t *testing.T) {
	if impl.MaxLevel != 10 {
		t.Error("limit", impl.MaxLevel)
	}
}

func TestChargeNoCells(t *testing.T) {
	for size := 2; size <= impl.MaxRunners; size++ {
		none := make([]int, size)
		for _, p := range [][]int{nil, {}} {
			levels, ok := impl.LevelsOf(p, size)
			wantList(t, "levels of no cells for", size, levels, none, ok)
			counts, ok := impl.ResidueCounts(p, size)
			wantList(t, "residues of no cells for", size, counts, none, ok)
			core, ok := impl.ReflectCore(p, size, 0)
			wantList(t, "no cells reflected at 0 for", size, core, []int{1}, ok)
			for i := 1; i < size; i++ {
				core, ok = impl.ReflectCore(p, size, i)
				wantList(t, fmt.Sprint("no cells reflected at ", i, " for"), size, core, nil, ok)
			}
			word, ok := impl.CoreWord(p, size)
			wantList(t, "word of no cells for", size, word, nil, ok)
			core, ok = impl.CoreByWord(size, p)
			wantList(t, "core by no residues for", size, core, nil, ok)
		}
		checkNoLevels(t, none)
		lists, ok := impl.LevelsWith(size, 0)
		wantRows(t, "levels with no cells for", size, lists, [][]int{none}, ok)
		cores, ok := impl.CoresWith(size, 0)
		wantRows(t, "cores with no cells for", size, cores, [][]int{{}}, ok)
		number, ok := impl.CountCores(size, 0)
		wantValue(t, "number of cores with no cells for", size, number, 1, ok)
		series, ok := impl.CoresBySeries(size, 0)
		wantList(t, "series up to no cells for", size, series, []int{1}, ok)
	}
}

// checkNoLevels takes levels that are all 0.
func checkNoLevels(t *testing.T, none []int) {
	t.Helper()
	if !impl.IsLevels(none) {
		t.Errorf("%v are levels", none)
	}
	n, ok := impl.SizeOfLevels(none)
	wantValue(t, "size", none, n, 0, ok)
	core, ok := impl.CoreOfLevels(none)
	wantList(t, "core", none, core, nil, ok)
	levels, ok := impl.LevelsFromCounts(none)
	wantList(t, "levels from counts", none, levels, none, ok)
	levels, ok = impl.TurnLevels(none)
	wantList(t, "turned levels", none, levels, none, ok)
	one := slices.Clone(none)
	one[0], one[len(one)-1] = 1, -1
	levels, ok = impl.ReflectLevels(none, 0)
	wantList(t, "levels reflected at 0", none, levels, one, ok)
	for i := 1; i < len(none); i++ {
		levels, ok = impl.ReflectLevels(none, i)
		wantList(t, fmt.Sprint("levels reflected at ", i), none, levels, none, ok)
	}
}

// wantNoCharge calls all functions of a partition and a number of runners, where one of both is none.
func wantNoCharge(t *testing.T, p []int, size int) {
	t.Helper()
	from := fmt.Sprint(brief([][]int{p}), " and ", size)
	levels, ok := impl.LevelsOf(p, size)
	wantNoList(t, "levels", from, levels, ok)
	counts, ok := impl.ResidueCounts(p, size)
	wantNoList(t, "residues", from, counts, ok)
	wantNoCore(t, p, size)
}

// wantNoCore calls the functions of a core and a number of runners with a partition that is no core.
func wantNoCore(t *testing.T, p []int, size int) {
	t.Helper()
	from := fmt.Sprint(brief([][]int{p}), " and ", size)
	word, ok := impl.CoreWord(p, size)
	wantNoList(t, "word", from, word, ok)
	for _, i := range []int{0, 1, 2, -1, size - 1, size, size + 1} {
		core, ok := impl.ReflectCore(p, size, i)
		wantNoList(t, fmt.Sprint("core reflected at ", i), from, core, ok)
	}
}

func TestChargeInvalidPartitions(t *testing.T) {
	for _, p := range notPartitions() {
		for size := 1; size <= impl.MaxRunners+1; size++ {
			wantNoCharge(t, p, size)
		}
	}
}

func TestChargeNoCore(t *testing.T) {
	eachSized(func(p []int, size int) {
		if !isCoreOf(p, size) {
			wantNoCore(t, p, size)
		}
	})
	wantNoCore(t, []int{2}, 2)
	wantNoCore(t, []int{2, 1}, 3)
	wantNoCore(t, []int{30}, 6)
	wantNoCore(t, ones(30), 6)
}

func TestChargeInvalidSizes(t *testing.T) {
	for _, size := range badRunners() {
		for _, p := range [][]int{nil, {1}, {2, 1}, {4, 2, 1}, {30}, ones(30)} {
			wantNoCharge(t, p, size)
			core, ok := impl.CoreByWord(size, p)
			wantNoList(t, fmt.Sprint("core by word for ", size), p, core, ok)
		}
		core, ok := impl.CoreByWord(size, []int{0})
		wantNoList(t, "core by the word 0 for", size, core, ok)
		for _, n := range []int{0, 1, 3, impl.MaxCells, impl.MaxCells + 1, -1} {
			wantNoneWith(t, size, n)
		}
	}
}

// wantNoneWith calls all functions of a number of runners and a number of cells, where one of both is none.
func wantNoneWith(t *testing.T, size, n int) {
	t.Helper()
	from := fmt.Sprint(size, " and ", n)
	lists, ok := impl.LevelsWith(size, n)
	wantNoRows(t, "levels", from, lists, ok)
	cores, ok := impl.CoresWith(size, n)
	wantNoRows(t, "cores", from, cores, ok)
	number, ok := impl.CountCores(size, n)
	wantNoValue(t, "number of cores", from, number, ok)
	series, ok := impl.CoresBySeries(size, n)
	wantNoList(t, "series", from, series, ok)
}

func TestChargeCellNumbers(t *testing.T) {
	for size := 2; size <= impl.MaxRunners; size++ {
		for _, n := range []int{31, 32, 60, 1000000, 1 << 32, math.MaxInt - 1, math.MaxInt, -1, -2, -30, math.MinInt, math.MinInt + 1} {
			wantNoneWith(t, size, n)
		}
		series, ok := impl.CoresBySeries(size, impl.MaxCells)
		wantValue(t, "length of the series for", size, len(series), 31, ok)
	}
	// The sizes of cores for 2 are 0, 1, 3, 6, 10, 15, 21 and 28: there is none of 30 cells, and the list of all is there.
	for _, n := range []int{2, 29, impl.MaxCells} {
		lists, ok := impl.LevelsWith(2, n)
		wantRows(t, "levels for 2", n, lists, nil, ok)
		cores, ok := impl.CoresWith(2, n)
		wantRows(t, "cores for 2", n, cores, nil, ok)
		number, ok := impl.CountCores(2, n)
		wantValue(t, "number of cores for 2", n, number, 0, ok)
	}
	cores, ok := impl.CoresWith(2, 28)
	wantRows(t, "cores for 2", 28, cores, [][]int{{7, 6, 5, 4, 3, 2, 1}}, ok)
}

func TestChargeGreatestLevels(t *testing.T) {
	sizes := []struct {
		levels []int
		size   int
	}{
		{[]int{10, -10}, 190}, {[]int{-10, 10}, 210}, {[]int{10, 0, -10}, 280}, {[]int{-10, 10, 0}, 310}, {[]int{10, -5, -5}, 210},
		{[]int{10, 10, -10, -10}, 760}, {[]int{-10, -10, 10, 10}, 840}, {[]int{10, 10, 0, -10, -10}, 940},
		{[]int{10, 10, 10, -10, -10, -10}, 1710}, {[]int{-10, -10, -10, 10, 10, 10}, 1890}, {[]int{-10, 10, -10, 10, -10, 10}, 1830},
	}
	for _, of := range sizes {
		if !impl.IsLevels(of.levels) {
			t.Errorf("%v are levels", of.levels)
		}
		n, ok := impl.SizeOfLevels(of.levels)
		wantValue(t, "size", of.levels, n, of.size, ok)
		core, ok := impl.CoreOfLevels(of.levels)
		wantNoList(t, "core", of.levels, core, ok)
		turned, ok := impl.TurnLevels(of.levels)
		wantValue(t, "length of the turned levels", of.levels, len(turned), len(of.levels), ok)
		for i := 1; i < len(of.levels); i++ {
			reflected, ok := impl.ReflectLevels(of.levels, i)
			wantList(t, fmt.Sprint("levels reflected at ", i), of.levels, reflected, reflectedByHand(of.levels, i), ok)
		}
	}
}

func TestChargeReflectedBeyondLevels(t *testing.T) {
	stay := []struct{ levels, want []int }{
		{[]int{10, -10}, []int{-9, 9}}, {[]int{-9, 9}, []int{10, -10}}, {[]int{-9, 0, 9}, []int{10, 0, -10}},
		{[]int{0, 10, -10}, []int{-9, 10, -1}}, {[]int{10, -10, 0}, []int{1, -10, 9}}, {[]int{-9, 0, 0, 0, 0, 9}, []int{10, 0, 0, 0, 0, -10}},
	}
	for _, of := range stay {
		reflected, ok := impl.ReflectLevels(of.levels, 0)
		wantList(t, "levels reflected at 0", of.levels, reflected, of.want, ok)
	}
	leave := [][]int{
		{-10, 10}, {-10, 10, 0}, {-10, 1, 9}, {0, -10, 10}, {-9, -1, 10}, {-10, 0, 10}, {-10, 0, 0, 0, 10}, {0, 0, 0, 0, -10, 10}, {-10, 10, 0, 0, 0, 0},
	}
	for _, levels := range leave {
		reflected, ok := impl.ReflectLevels(levels, 0)
		wantNoList(t, "levels reflected at 0", levels, reflected, ok)
	}
}

// notLevels returns lists that are no levels.
func notLevels() [][]int {
	return [][]int{
		nil, {}, {0}, {10}, make([]int, 7), {1, -1, 0, 0, 0, 0, 0}, make([]int, 8), make([]int, 100000),
		{1, 0}, {0, 1}, {1, 1}, {1, -2}, {-1, 0}, {10, -9}, {10, 10}, {-10, -10}, {1, 1, 1}, {0, 0, 1}, {2, -1, 0}, {0, 0, 0, 0, 0, 1}, {1, 1, 1, -1, -1, -2},
		{11, -11}, {-11, 11}, {11, -10, -1}, {-1, -10, 11}, {-11, 10, 1}, {0, 11, -11}, {0, 0, 0, 0, 11, -11}, {11, 0, 0, 0, 0, -11}, {-11, 10, 1, 0, 0, 0},
		{math.MaxInt, -math.MaxInt}, {math.MinInt, math.MinInt}, {math.MaxInt, math.MaxInt, 2}, {math.MaxInt, math.MinInt, 1}, {math.MinInt, 0, math.MinInt},
		slices.Repeat([]int{1 << 62}, 4), {1 << 32, -1 << 32}, {math.MinInt, 0}, {0, math.MinInt}, {math.MaxInt, 0}, {5, math.MaxInt},
	}
}

func TestChargeNotLevels(t *testing.T) {
	for _, list := range notLevels() {
		from := brief([][]int{list})
		if impl.IsLevels(list) {
			t.Errorf("%s are no levels", from)
		}
		n, ok := impl.SizeOfLevels(list)
		wantNoValue(t, "size", from, n, ok)
		core, ok := impl.CoreOfLevels(list)
		wantNoList(t, "core", from, core, ok)
		turned, ok := impl.TurnLevels(list)
		wantNoList(t, "turned levels", from, turned, ok)
		for _, i := range []int{0, 1, len(list) - 1, len(list), -1} {
			reflected, ok := impl.ReflectLevels(list, i)
			wantNoList(t, fmt.Sprint("levels reflected at ", i), from, reflected, ok)
		}
	}
}

// The cores of 30 cells, and the next greater ones.
func TestChargeMostCells(t *testing.T) {
	for size := 3; size <= impl.MaxRunners; size++ {
		exact, more := 0, 0
		for _, levels := range levelsWithin(size, 3) {
			want := coreByBeads(levels)
			if n := sumOf(want); n < 30 || n > 33 {
				continue
			}
			n, ok := impl.SizeOfLevels(levels)
			wantValue(t, "size", levels, n, sumOf(want), ok)
			core, ok := impl.CoreOfLevels(levels)
			if n == impl.MaxCells {
				exact++
				wantList(t, "core", levels, core, want, ok)
			} else {
				more++
				wantNoList(t, "core", levels, core, ok)
			}
		}
		if exact == 0 || more == 0 {
			t.Errorf("for %d: %d levels with 30 cells, %d with few more", size, exact, more)
		}
	}
	// 28 cells, and then 36
	core, ok := impl.CoreOfLevels([]int{4, -4})
	wantList(t, "core", "4 -4", core, []int{7, 6, 5, 4, 3, 2, 1}, ok)
	n, ok := impl.SizeOfLevels([]int{-4, 4})
	wantValue(t, "size", "-4 4", n, 36, ok)
	core, ok = impl.CoreOfLevels([]int{-4, 4})
	wantNoList(t, "core", "-4 4", core, ok)
}

func TestChargeCounts(t *testing.T) {
	made := []struct{ counts, levels []int }{
		{[]int{30, 30}, []int{0, 0}}, {[]int{30, 20}, []int{10, -10}}, {[]int{0, 10}, []int{-10, 10}}, {[]int{10, 0, 0}, []int{10, 0, -10}},
		{[]int{20, 30, 25}, []int{-10, 5, 5}}, {slices.Repeat([]int{30}, 6), make([]int, 6)}, {[]int{1, 2, 4, 7, 11, 10}, []int{-1, -2, -3, -4, 1, 9}},
		{[]int{0, 10, 20, 30, 20, 10}, []int{-10, -10, -10, 10, 10, 10}},
	}
	for _, of := range made {
		levels, ok := impl.LevelsFromCounts(of.counts)
		wantList(t, "levels from counts", of.counts, levels, of.levels, ok)
	}
	none := [][]int{
		nil, {}, {0}, {30}, make([]int, 7), slices.Repeat([]int{5}, 7), make([]int, 100000),
		{31, 31}, {31, 30}, {30, 31}, {31, 21}, {0, 31}, slices.Repeat([]int{31}, 6), {30, 30, 30, 30, 30, 31}, {31, 30, 30},
		{30, 19}, {19, 30}, {11, 0}, {0, 11}, {30, 0}, {0, 30}, {11, 0, 0}, {0, 5, 16}, {16, 5, 0}, {0, 0, 0, 0, 0, 11}, {11, 0, 5, 5, 5, 10},
		{-1, -1}, {-1, 0}, {0, -1}, {-1, 5, 5}, {5, 5, -1}, {-30, -30}, {0, 0, 0, 0, 0, -1},
		{math.MaxInt, math.MaxInt}, {math.MinInt, math.MinInt}, {math.MaxInt, math.MinInt}, {math.MinInt, 0}, {0, math.MaxInt}, {1 << 32, 1 << 32}, {math.MinInt, math.MinInt, math.MinInt},
	}
	for _, counts := range none {
		levels, ok := impl.LevelsFromCounts(counts)
		wantNoList(t, "levels from counts", brief([][]int{counts}), levels, ok)
	}
}

func TestChargeResidueEdges(t *testing.T) {
	for size := 2; size <= impl.MaxRunners; size++ {
		levels := make([]int, size)
		levels[0], levels[size-1] = 1, -1
		for _, i := range []int{0, size - 1} {
			_, ok := impl.ReflectLevels(levels, i)
			wantValue(t, fmt.Sprint("whether levels are reflected at ", i), levels, ok, true, ok)
			_, ok = impl.ReflectCore([]int{1}, size, i)
			wantValue(t, fmt.Sprint("whether 1 is reflected at ", i, " for"), size, ok, true, ok)
			_, ok = impl.CoreByWord(size, []int{i})
			wantValue(t, fmt.Sprint("whether there is a core by the word ", i, " for"), size, ok, true, ok)
		}
		for _, i := range []int{size, size + 1, -1, -size, 1 << 32, math.MaxInt, math.MinInt} {
			reflected, ok := impl.ReflectLevels(levels, i)
			wantNoList(t, fmt.Sprint("levels reflected at ", i), levels, reflected, ok)
			core, ok := impl.ReflectCore([]int{1}, size, i)
			wantNoList(t, fmt.Sprint("1 reflected at ", i, " for"), size, core, ok)
			core, ok = impl.ReflectCore(nil, size, i)
			wantNoList(t, fmt.Sprint("no cells reflected at ", i, " for"), size, core, ok)
			for _, word := range [][]int{{i}, {0, i}, {i, 0}, {0, 0, 0, i}} {
				core, ok := impl.CoreByWord(size, word)
				wantNoList(t, fmt.Sprint("core by word for ", size), word, core, ok)
			}
		}
	}
}

func TestChargeReflectedCoreEdges(t *testing.T) {
	stairs := []int{7, 6, 5, 4, 3, 2, 1}
	done := []struct {
		p       []int
		size, i int
		want    []int
	}{
		{[]int{1}, 2, 1, []int{2, 1}}, {[]int{2, 1}, 2, 1, []int{1}}, {[]int{1}, 2, 0, nil}, // adds, takes away, takes away all
		{[]int{2}, 3, 2, []int{3, 1}}, {[]int{3, 1}, 3, 2, []int{2}}, {[]int{2}, 3, 1, []int{1}}, {[]int{2}, 3, 0, []int{2}}, // the last one does neither
		{[]int{1}, 6, 5, []int{1, 1}}, {[]int{1}, 6, 1, []int{2}}, {[]int{1}, 6, 3, []int{1}}, {[]int{1, 1}, 6, 5, []int{1}},
		{[]int{6, 5, 4, 3, 2, 1}, 2, 0, stairs}, {stairs, 2, 0, []int{6, 5, 4, 3, 2, 1}},
	}
	for _, of := range done {
		core, ok := impl.ReflectCore(of.p, of.size, of.i)
		wantList(t, fmt.Sprint("core reflected for ", of.size, " at ", of.i), of.p, core, of.want, ok)
	}
	// 8 cells more
	core, ok := impl.ReflectCore(stairs, 2, 1)
	wantNoList(t, "core reflected for 2 at 1", stairs, core, ok)
}

// stairWord makes the core for 2 with so many rows.
func stairWord(rows int) []int {
	var word []int
	for i := range rows {
		word = append(word, i%2)
	}
	return word
}

func TestChargeWordEdges(t *testing.T) {
	done := []struct {
		size int
		word []int
		want []int
	}{
		{2, make([]int, 39), []int{1}}, {2, make([]int, 40), nil}, {6, make([]int, 40), nil}, {3, slices.Repeat([]int{1}, 40), nil},
		{2, stairWord(7), []int{7, 6, 5, 4, 3, 2, 1}}, {2, append(make([]int, 32), stairWord(7)...), []int{7, 6, 5, 4, 3, 2, 1}},
		{2, append(stairWord(7), make([]int, 33)...), []int{6, 5, 4, 3, 2, 1}}, {3, []int{1, 2}, nil}, {3, []int{1, 0, 2, 1}, []int{2, 1, 1}},
	}
	for _, of := range done {
		core, ok := impl.CoreByWord(of.size, of.word)
		wantList(t, fmt.Sprint("core by word for ", of.size), of.word, core, of.want, ok)
	}
	for size := 2; size <= impl.MaxRunners; size++ {
		for _, length := range []int{41, 42, 80, 100000} {
			core, ok := impl.CoreByWord(size, make([]int, length))
			wantNoList(t, fmt.Sprint("core for ", size, " by residues 0"), length, core, ok)
		}
	}
	// The last step makes 36 cells.
	for _, word := range [][]int{stairWord(8), append(make([]int, 32), stairWord(8)...), append(stairWord(8), 1), append(stairWord(7), 0, 0, 1)} {
		core, ok := impl.CoreByWord(2, word)
		wantNoList(t, "core by word for 2", word, core, ok)
	}
}
