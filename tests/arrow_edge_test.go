package tests

import (
	"fmt"
	"math"
	"slices"
	"strings"
	"testing"

	"loop.example/g01136/impl"
)

// Promise 8: the edges that the chapter names or that its limits make, and invalid arguments.

func TestArrowLimits(t *testing.T) {
	wantValue(t, "limit", "reached partitions", impl.MaxReached, 12, true)
}

// An arrowCase has what a partition gives for a size and a residue; up or down is noArrow if there is none.
type arrowCase struct {
	p                  []int
	size, i            int
	signature, reduced string
	up, down           []int
}

var noArrow = []int{-1}

func checkArrowCase(t *testing.T, of arrowCase) {
	t.Helper()
	from := fmt.Sprint(of.p, " for ", of.size, " at ", of.i)
	signature, ok := impl.SignatureOf(of.p, of.size, of.i)
	wantValue(t, "signature", from, signature, of.signature, ok)
	reduced, ok := impl.ReducedSignature(signature)
	wantValue(t, "reduced signature", from, reduced, of.reduced, ok)
	checkCounts(t, of.p, of.size, of.i, strings.Count(of.reduced, "R"), strings.Count(of.reduced, "A"))
	up, ok := impl.ArrowUp(of.p, of.size, of.i)
	checkArrow(t, "arrow up", from, up, of.up, ok)
	down, ok := impl.ArrowDown(of.p, of.size, of.i)
	checkArrow(t, "arrow down", from, down, of.down, ok)
}

func checkArrow(t *testing.T, what, from string, got, want []int, ok bool) {
	t.Helper()
	if slices.Equal(want, noArrow) {
		wantNoList(t, what, from, got, ok)
	} else {
		wantList(t, what, from, got, want, ok)
	}
}

func TestArrowNoCells(t *testing.T) {
	for _, none := range [][]int{nil, {}} {
		for size := 2; size <= impl.MaxRunners; size++ {
			checkArrowCase(t, arrowCase{none, size, 0, "A", "A", []int{1}, noArrow})
			for i := 1; i < size; i++ {
				checkArrowCase(t, arrowCase{none, size, i, "", "", noArrow, noArrow})
			}
			isRegular, ok := impl.IsRegular(none, size)
			wantValue(t, "whether no cells are regular for", size, isRegular, true, ok)
			word, ok := impl.ArrowWord(none, size)
			wantList(t, "word of no cells for", size, word, nil, ok)
			made, ok := impl.ArrowByWord(size, none)
			wantList(t, "by no residues for", size, made, nil, ok)
			mirror, ok := impl.MirrorOf(none, size)
			wantList(t, "mirror of no cells for", size, mirror, nil, ok)
			regular, ok := impl.RegularOf(none, size)
			wantList(t, "regular of no cells for", size, regular, nil, ok)
		}
		isAbove, ok := impl.IsAbove(none, none)
		wantValue(t, "whether above", "no cells twice", isAbove, true, ok)
		for _, p := range [][]int{{1}, {30}, ones(30)} {
			isAbove, ok = impl.IsAbove(none, p)
			wantValue(t, "whether no cells are above", p, isAbove, false, ok)
			isAbove, ok = impl.IsAbove(p, none)
			wantValue(t, "whether above no cells", p, isAbove, false, ok)
		}
	}
}

// The contents of a row with n cells: n at its end, n - 1 of its last cell, and -1 behind it.
func TestArrowSingleRow(t *testing.T) {
	for n := 1; n < impl.MaxCells; n++ {
		p := []int{n}
		for size := 2; size <= impl.MaxRunners; size++ {
			for i := range size {
				of := arrowCase{p, size, i, "", "", noArrow, noArrow}
				if mod(n, size) == i {
					of.signature += "A"
					of.up = []int{n + 1}
				}
				if mod(n-1, size) == i {
					of.signature += "R"
					of.down = changedIn(p, 0, -1)
				}
				if i == size-1 {
					of.signature += "A"
					if mod(n, size) != i {
						of.up = []int{n, 1}
					}
				}
				of.reduced = of.signature // no R is behind an A
				checkArrowCase(t, of)
			}
			// All residues from the last cell to the first one.
			word, ok := impl.ArrowByWord(size, rowWord(n, size))
			wantList(t, fmt.Sprint("row by word for ", size), n, word, p, ok)
		}
	}
}

// rowWord returns the residues of n cells in the first row, the last one first.
func rowWord(n, size int) []int {
	var word []int
	for _, at := range falling(upTo(n)) {
		word = append(word, at%size)
	}
	return word
}

// The contents of a column with n cells: 1 behind its first one, 1 - n of its last one, and -n below it.
func TestArrowSingleColumn(t *testing.T) {
	for n := 2; n < impl.MaxCells; n++ {
		p := ones(n)
		for size := 2; size <= impl.MaxRunners; size++ {
			for i := range size {
				of := arrowCase{p, size, i, "", "", noArrow, noArrow}
				if i == 1 {
					of.signature, of.reduced = "A", "A"
					of.up = append([]int{2}, ones(n-1)...)
				}
				if mod(1-n, size) == i {
					of.signature += "R"
					of.reduced += "R"
					of.down = ones(n - 1)
				}
				if of.signature == "AR" {
					of.reduced, of.up, of.down = "", noArrow, noArrow
				}
				if mod(-n, size) == i {
					of.signature += "A"
					of.reduced += "A"
					if i != 1 {
						of.up = ones(n + 1)
					}
				}
				checkArrowCase(t, of)
			}
		}
	}
}

func TestArrowRowEdges(t *testing.T) {
	for _, of := range []arrowCase{
		{[]int{1}, 2, 0, "R", "R", noArrow, nil}, {[]int{1}, 2, 1, "AA", "AA", []int{2}, noArrow}, {[]int{1}, 3, 2, "A", "A", []int{1, 1}, noArrow},
		// the second row is as long as the first one: no cell fits at its end, and the first one keeps its last cell
		{[]int{2, 2}, 2, 0, "ARA", "A", []int{2, 2, 1}, noArrow}, {[]int{2, 2}, 2, 1, "", "", noArrow, noArrow},
		{[]int{2, 2}, 3, 0, "R", "R", noArrow, []int{2, 1}}, {[]int{2, 2}, 3, 1, "A", "A", []int{2, 2, 1}, noArrow}, {[]int{2, 2}, 3, 2, "A", "A", []int{3, 2}, noArrow},
		{[]int{3, 3, 3}, 2, 1, "AA", "AA", []int{4, 3, 3}, noArrow}, {[]int{3, 3, 3}, 2, 0, "R", "R", noArrow, []int{3, 3, 2}},
		{[]int{3, 3, 3}, 3, 0, "ARA", "A", []int{3, 3, 3, 1}, noArrow}, {[]int{3, 3, 3}, 3, 1, "", "", noArrow, noArrow}, {[]int{3, 3, 3}, 3, 2, "", "", noArrow, noArrow},
		{[]int{4, 2, 2, 1}, 2, 0, "AAA", "AAA", []int{5, 2, 2, 1}, noArrow}, {[]int{4, 2, 2, 1}, 2, 1, "RARR", "RR", noArrow, []int{4, 2, 2}},
		{[]int{4, 2, 2, 1}, 5, 4, "AR", "", noArrow, noArrow}, {[]int{4, 2, 2, 1}, 5, 1, "AA", "AA", []int{4, 3, 2, 1}, noArrow}, {[]int{4, 2, 2, 1}, 5, 2, "R", "R", noArrow, []int{4, 2, 2}}, {[]int{4, 2, 2, 1}, 5, 3, "RA", "RA", []int{4, 2, 2, 2}, []int{3, 2, 2, 1}},
		// a cell for the row behind the last one
		{[]int{2, 1}, 2, 0, "AAA", "AAA", []int{3, 1}, noArrow}, {[]int{2, 1}, 3, 1, "RA", "RA", []int{2, 1, 1}, []int{1, 1}}, {[]int{4, 3, 2}, 4, 1, "RA", "RA", []int{4, 3, 2, 1}, []int{4, 2, 2}}, {[]int{3, 2}, 6, 4, "A", "A", []int{3, 2, 1}, noArrow},
		// residues that no letter has
		{[]int{2, 1}, 2, 1, "RR", "RR", noArrow, []int{2}}, {[]int{1}, 6, 2, "", "", noArrow, noArrow}, {[]int{3}, 6, 1, "", "", noArrow, noArrow}, {[]int{5, 5, 5}, 6, 1, "", "", noArrow, noArrow},
	} {
		checkArrowCase(t, of)
	}
}

func TestArrowLetterKinds(t *testing.T) {
	for _, of := range []arrowCase{
		// A alone, and no arrow down
		{[]int{4, 3, 2, 1}, 2, 0, "AAAAA", "AAAAA", []int{5, 3, 2, 1}, noArrow},
		{[]int{7, 6, 5, 4, 3, 2, 1}, 2, 1, "AAAAAAAA", "AAAAAAAA", []int{8, 6, 5, 4, 3, 2, 1}, noArrow},
		{[]int{5, 3, 1}, 3, 2, "AAA", "AAA", []int{6, 3, 1}, noArrow},
		// R alone, and no arrow up
		{[]int{4, 3, 2, 1}, 2, 1, "RRRR", "RRRR", noArrow, []int{4, 3, 2}},
		{[]int{7, 6, 5, 4, 3, 2, 1}, 2, 0, "RRRRRRR", "RRRRRRR", noArrow, []int{7, 6, 5, 4, 3, 2}},
		{[]int{5, 3, 1}, 3, 1, "RRR", "RRR", noArrow, []int{5, 3}},
		// pairs, some of which come together when others are taken away
		{[]int{4, 3, 1, 1}, 2, 1, "RRAR", "RR", noArrow, []int{4, 2, 1, 1}}, {[]int{3, 1, 1}, 2, 0, "RAR", "R", noArrow, []int{2, 1, 1}}, {[]int{4, 1, 1}, 3, 1, "AR", "", noArrow, noArrow}, {[]int{4, 1, 1}, 3, 0, "RAA", "RAA", []int{4, 2, 1}, []int{3, 1, 1}},
		{[]int{6, 5, 3, 1, 1}, 2, 0, "AARAR", "A", []int{7, 5, 3, 1, 1}, noArrow}, {[]int{6, 5, 3, 1, 1}, 2, 1, "RRAA", "RRAA", []int{6, 5, 4, 1, 1}, []int{6, 4, 3, 1, 1}},
		{[]int{6, 5, 3, 2}, 2, 0, "AARRA", "A", []int{6, 5, 3, 2, 1}, noArrow}, {[]int{6, 5, 3, 2}, 2, 1, "RRAA", "RRAA", []int{6, 5, 4, 2}, []int{6, 4, 3, 2}},
		{[]int{6, 5, 3, 2, 1}, 2, 0, "AARRR", "R", noArrow, []int{6, 5, 3, 2}}, {[]int{6, 5, 3, 2, 1}, 2, 1, "RRAAAA", "RRAAAA", []int{6, 5, 4, 2, 1}, []int{6, 4, 3, 2, 1}},
	} {
		checkArrowCase(t, of)
	}
}

func TestArrowTextEdges(t *testing.T) {
	long := strings.Repeat
	for _, of := range []struct{ text, want string }{
		{"", ""}, {"A", "A"}, {"R", "R"}, {"AA", "AA"}, {"RR", "RR"}, {"AR", ""}, {"RA", "RA"}, {"ARRA", "RA"}, {"AARR", ""}, {"ARAR", ""}, {"AARAR", "A"}, {"ARARR", "R"}, {"RAAR", "RA"}, {"AARARR", ""}, {"RARARA", "RA"}, {"RRAARA", "RRAA"}, {"AAARRAAR", "AA"}, {"RRRAAA", "RRRAAA"},
		{long("A", 100), long("A", 100)}, {long("R", 100), long("R", 100)}, {long("A", 50) + long("R", 50), ""}, {long("AR", 50), ""}, {long("RA", 50), "RA"}, {long("R", 50) + long("A", 50), long("R", 50) + long("A", 50)},
		{long("A", 99) + "R", long("A", 98)}, {"A" + long("R", 99), long("R", 98)}, {long("AAR", 33), long("A", 33)}, {long("ARR", 33), long("R", 33)},
	} {
		reduced, ok := impl.ReducedSignature(of.text)
		wantValue(t, "reduced", of.text, reduced, of.want, ok)
	}
}

func TestArrowOtherTexts(t *testing.T) {
	long := strings.Repeat
	for _, text := range []string{
		long("A", 101), long("R", 101), long("AR", 50) + "A", long("RA", 50) + "R", long("A", 51) + long("R", 50), long("A", 102), long("AR", 1000), long("A", 1<<20), long("AR", 1<<20),
		"a", "r", "ar", "ra", "Ar", "aR", "ARa", "ARr", "AaR", "rAR", "aaRR",
		"B", "ABR", "Q", "S", "@", "ARU", "URR", "0", "A0R", "-", "A R", " AR", "AR ", " ", "\n", "AR\n", "A,R", "A\x00R", "\x00", "\xff", "AR\xff", "\u00c1", "\u0410", "A\u0410R", "\uff21\uff32", // the last ones only look like A and R
		long("A", 99) + "a", "r" + long("R", 99), long("A", 50) + " " + long("R", 49), long("A", 100) + "a", long("b", 100), long("\x00", 101),
	} {
		reduced, ok := impl.ReducedSignature(text)
		wantNoValue(t, "reduced", fmt.Sprintf("%.40q", text), reduced, ok)
	}
}

// An arrow up makes at most 30 cells, also where the signature has more places.
func TestArrowMostCells(t *testing.T) {
	for _, p := range partitions(impl.MaxCells) {
		for size := 2; size <= impl.MaxRunners; size++ {
			for i := range size {
				up, ok := impl.ArrowUp(p, size, i)
				wantNoList(t, fmt.Sprint("arrow up for ", size, " at ", i), p, up, ok)
			}
		}
	}
	for _, of := range []arrowCase{
		{[]int{30}, 2, 0, "A", "A", noArrow, noArrow}, {[]int{30}, 2, 1, "RA", "RA", noArrow, []int{29}},
		{[]int{30}, 4, 1, "R", "R", noArrow, []int{29}}, {[]int{30}, 4, 2, "A", "A", noArrow, noArrow}, {[]int{30}, 4, 3, "A", "A", noArrow, noArrow},
		{ones(30), 4, 1, "A", "A", noArrow, noArrow}, {ones(30), 4, 2, "A", "A", noArrow, noArrow}, {ones(30), 4, 3, "R", "R", noArrow, ones(29)}, {ones(30), 5, 1, "AR", "", noArrow, noArrow},
		{[]int{10, 10, 10}, 3, 0, "A", "A", noArrow, noArrow}, {[]int{10, 10, 10}, 3, 1, "AR", "", noArrow, noArrow},
		{[]int{29}, 2, 1, "AA", "AA", []int{30}, noArrow}, {[]int{29}, 3, 2, "AA", "AA", []int{30}, noArrow}, {[]int{29}, 4, 1, "A", "A", []int{30}, noArrow}, {[]int{29}, 4, 3, "A", "A", []int{29, 1}, noArrow},
		{ones(29), 4, 1, "A", "A", append([]int{2}, ones(28)...), noArrow}, {ones(29), 4, 3, "A", "A", ones(30), noArrow},
	} {
		checkArrowCase(t, of)
	}
	for _, p := range [][]int{{30}, {29, 1}, {8, 7, 6, 5, 4}, {15, 15}} {
		word, ok := impl.ArrowWord(p, 3)
		wantList(t, "word for 3", p, word, arrowsDown(p, 3), ok)
		mirror, ok := impl.MirrorOf(p, 3)
		wantValue(t, "cells of the mirror for 3", p, sumOf(mirror), impl.MaxCells, ok)
		again, ok := impl.MirrorOf(mirror, 3)
		wantList(t, "mirror of the mirror for 3", p, again, p, ok)
	}
}

func TestArrowEqualParts(t *testing.T) {
	for size := 2; size <= impl.MaxRunners; size++ {
		for part := 1; part <= 5; part++ {
			fewer, all := slices.Repeat([]int{part}, size-1), slices.Repeat([]int{part}, size)
			checkRegular(t, size, fewer, true)
			for _, p := range [][]int{all, append(slices.Clone(all), part)} {
				if sumOf(p) <= impl.MaxCells {
					checkRegular(t, size, p, false)
				}
			}
			for _, behind := range [][]int{{2, 1}, {2}, {1}} {
				if part > 2 && sumOf(all)+sumOf(behind) <= impl.MaxCells {
					checkRegular(t, size, slices.Concat(fewer, behind), true)
					checkRegular(t, size, slices.Concat(all, behind), false)
				}
			}
			if part < 3 {
				checkRegular(t, size, slices.Concat([]int{7, 4}, fewer), true)
				checkRegular(t, size, slices.Concat([]int{7, 4}, all), false)
				checkRegular(t, size, slices.Concat([]int{3}, fewer), true)
				checkRegular(t, size, slices.Concat([]int{3}, all), false)
			}
		}
		// Many equal parts, but never so many of one kind.
		checkRegular(t, size, slices.Concat(slices.Repeat([]int{3}, size-1), slices.Repeat([]int{2}, size-1), ones(size-1)), true)
	}
}

func checkRegular(t *testing.T, size int, p []int, want bool) {
	t.Helper()
	from := fmt.Sprint(p, " for ", size)
	isRegular, ok := impl.IsRegular(p, size)
	wantValue(t, "whether regular", from, isRegular, want, ok)
	word, ok := impl.ArrowWord(p, size)
	mirror, ok2 := impl.MirrorOf(p, size)
	if want {
		wantList(t, "word", from, word, arrowsDown(p, size), ok)
		wantValue(t, "cells of the mirror", from, sumOf(mirror), sumOf(p), ok2)
	} else {
		wantNoList(t, "word", from, word, ok)
		wantNoList(t, "mirror", from, mirror, ok2)
	}
}

// With a size greater than the number of cells all partitions are regular, and mirrors are conjugates.
func TestArrowGreatSizes(t *testing.T) {
	for size := 2; size <= impl.MaxRunners; size++ {
		for n := range size {
			lists, ok := impl.RegularWith(size, n)
			wantRows(t, fmt.Sprint("regular for ", size), n, lists, partitions(n), ok)
			for _, p := range partitions(n) {
				checkRegular(t, size, p, true)
				mirror, ok := impl.MirrorOf(p, size)
				wantList(t, fmt.Sprint("mirror for ", size), p, mirror, turned(p), ok)
				regular, ok := impl.RegularOf(p, size)
				wantList(t, fmt.Sprint("regular of it for ", size), p, regular, p, ok)
			}
		}
		// With as many cells it need not be.
		mirror, ok := impl.MirrorOf([]int{size}, size)
		other := append([]int{2}, ones(size-2)...)
		wantList(t, fmt.Sprint("mirror for ", size), size, mirror, other, ok)
		again, ok := impl.MirrorOf(other, size)
		wantList(t, fmt.Sprint("mirror for ", size), other, again, []int{size}, ok)
	}
}

func TestArrowNumbersOfCells(t *testing.T) {
	// How many there are with 0 to 12 cells.
	counts := map[int][]int{
		2: {1, 1, 1, 2, 2, 3, 4, 5, 6, 8, 10, 12, 15},
		3: {1, 1, 2, 2, 4, 5, 7, 9, 13, 16, 22, 27, 36},
		4: {1, 1, 2, 3, 4, 6, 9, 12, 16, 22, 29, 38, 50},
		5: {1, 1, 2, 3, 5, 6, 10, 13, 19, 25, 34, 44, 60},
		6: {1, 1, 2, 3, 5, 7, 10, 14, 20, 27, 37, 49, 65},
	}
	for size := 2; size <= impl.MaxRunners; size++ {
		for n, want := range counts[size] {
			regular, ok := impl.RegularWith(size, n)
			wantValue(t, fmt.Sprint("number of regular ones for ", size), n, len(regular), want, ok)
			reached, ok := impl.ReachedByArrows(size, n)
			wantValue(t, fmt.Sprint("number of reached ones for ", size), n, len(reached), want, ok)
		}
		for _, n := range []int{13, 14, 15, 30, 31, 1 << 32, 1<<32 + 1, math.MaxInt - 1, math.MaxInt, -1, -2, -12, math.MinInt, math.MinInt + 1} {
			wantNoReached(t, size, n)
		}
	}
	for _, size := range badRunners() {
		for _, n := range []int{0, 1, 5, 12, 13, -1} {
			wantNoReached(t, size, n)
		}
	}
	for _, list := range []func(int, int) ([][]int, bool){impl.RegularWith, impl.ReachedByArrows} {
		none, ok := list(2, 0)
		wantRows(t, "lists for 2", 0, none, [][]int{{}}, ok)
		one, ok := list(2, 1)
		wantRows(t, "lists for 2", 1, one, [][]int{{1}}, ok)
		four, ok := list(3, 4)
		wantRows(t, "lists for 3", 4, four, [][]int{{4}, {3, 1}, {2, 2}, {2, 1, 1}}, ok)
	}
}

func wantNoReached(t *testing.T, size, n int) {
	t.Helper()
	regular, ok := impl.RegularWith(size, n)
	wantNoRows(t, fmt.Sprint("regular ones for ", size), n, regular, ok)
	reached, ok := impl.ReachedByArrows(size, n)
	wantNoRows(t, fmt.Sprint("reached ones for ", size), n, reached, ok)
}

func TestArrowWordEdges(t *testing.T) {
	for _, of := range []struct {
		size       int
		word, want []int
	}{
		{2, []int{0}, []int{1}}, {2, []int{1, 0}, []int{2}}, {2, []int{1, 1, 0}, []int{2, 1}}, {2, []int{0, 1, 0}, []int{3}}, {2, []int{0, 1, 1, 0}, []int{3, 1}},
		{3, []int{1, 0}, []int{2}}, {3, []int{2, 0}, []int{1, 1}}, {3, []int{2, 1, 0}, []int{3}}, {3, []int{1, 2, 0}, []int{2, 1}}, {3, []int{2, 2, 1, 0}, []int{3, 1}}, {6, []int{5, 0}, []int{1, 1}}, {6, []int{4, 5, 0}, ones(3)},
	} {
		made, ok := impl.ArrowByWord(of.size, of.word)
		wantList(t, fmt.Sprint("by word for ", of.size), of.word, made, of.want, ok)
	}
	for size := 2; size <= impl.MaxRunners; size++ {
		made, ok := impl.ArrowByWord(size, rowWord(30, size))
		wantList(t, "by a word of 30 residues for", size, made, []int{30}, ok)
		for _, length := range []int{31, 32, 60, 100000} {
			for _, word := range [][]int{rowWord(length, size), make([]int, length)} {
				made, ok := impl.ArrowByWord(size, word)
				wantNoList(t, fmt.Sprint("by ", length, " residues for"), size, made, ok)
			}
		}
		checkArrows(t, size, append([]int{size - 1}, rowWord(29, size)...))
	}
	// One arrow cannot be made: the first, the last, or one in between.
	for _, of := range []struct {
		size int
		word []int
	}{
		{2, []int{1}}, {2, []int{0, 1}}, {2, []int{0, 0}}, {2, []int{1, 1, 1, 0}}, {2, []int{1, 0, 0}}, {2, []int{0, 0, 1, 0}}, {2, []int{0, 1, 0, 0, 1, 0}},
		{3, []int{1}}, {3, []int{2}}, {3, []int{0, 1}}, {3, []int{1, 1, 0}}, {3, []int{2, 0, 0, 1, 0}}, {3, []int{0, 1, 2}}, {6, []int{5}}, {6, []int{3, 0}}, {6, []int{0, 5}}, {6, make([]int, 30)},
	} {
		made, ok := impl.ArrowByWord(of.size, of.word)
		wantNoList(t, fmt.Sprint("by word for ", of.size), of.word, made, ok)
	}
}

func TestArrowResidueEdges(t *testing.T) {
	for size := 2; size <= impl.MaxRunners; size++ {
		_, ok := impl.SignatureOf([]int{1}, size, 0)
		_, ok2 := impl.SignatureOf([]int{1}, size, size-1)
		wantValue(t, "whether there are signatures for", size, true, true, ok && ok2)
		for _, i := range badResidues(size) {
			for _, p := range [][]int{nil, {1}, {2, 1}, {4, 2, 2, 1}, {30}, ones(30)} {
				wantNoArrows(t, p, size, i)
			}
			for _, word := range [][]int{{i}, {0, i}, {i, 0}, {size - 1, i, 0}, {0, 0, i}, {i, i}} {
				made, ok := impl.ArrowByWord(size, word)
				wantNoList(t, fmt.Sprint("by word for ", size), word, made, ok)
			}
		}
	}
}

// badResidues returns numbers that are no residues, most of them with the remainder of one at which there are arrows.
func badResidues(size int) []int {
	return []int{-1, size, size + 1, -size, 2 * size, 2*size - 1, -size - 1, 1 << 32, math.MaxInt, math.MaxInt - 1, math.MinInt, math.MinInt + 1}
}

// wantNoArrows calls what requires a partition, a size and a residue, where one of them is none.
func wantNoArrows(t *testing.T, p []int, size, i int) {
	t.Helper()
	from := fmt.Sprint(brief([][]int{p}), " for ", size, " at ", i)
	signature, ok := impl.SignatureOf(p, size, i)
	wantNoValue(t, "signature", from, signature, ok)
	up, ok := impl.ArrowUp(p, size, i)
	wantNoList(t, "arrow up", from, up, ok)
	down, ok := impl.ArrowDown(p, size, i)
	wantNoList(t, "arrow down", from, down, ok)
	takes, adds, ok := impl.ArrowCounts(p, size, i)
	wantNoValue(t, "letters left", from, cell{takes, adds}, ok)
}

// wantNoRegular calls what requires a partition and a size, where one of them is none.
func wantNoRegular(t *testing.T, p []int, size int) {
	t.Helper()
	from := fmt.Sprint(brief([][]int{p}), " for ", size)
	isRegular, ok := impl.IsRegular(p, size)
	wantNoValue(t, "whether regular", from, isRegular, ok)
	word, ok := impl.ArrowWord(p, size)
	wantNoList(t, "word", from, word, ok)
	mirror, ok := impl.MirrorOf(p, size)
	wantNoList(t, "mirror", from, mirror, ok)
	regular, ok := impl.RegularOf(p, size)
	wantNoList(t, "regular", from, regular, ok)
	for _, i := range []int{0, 1, -1, size - 1, size} {
		wantNoArrows(t, p, size, i)
	}
}

func TestArrowInvalidPartitions(t *testing.T) {
	for _, p := range notPartitions() {
		for size := 1; size <= impl.MaxRunners+1; size++ {
			wantNoRegular(t, p, size)
		}
		for _, q := range [][]int{nil, {1}, {3}, {30}, ones(30), p} {
			for _, both := range [][2][]int{{p, q}, {q, p}} {
				isAbove, ok := impl.IsAbove(both[0], both[1])
				wantNoValue(t, "whether above", brief(both[:]), isAbove, ok)
			}
		}
	}
	// Lists with an end at which an arrow could be made, but for a number that does not fit.
	for _, p := range [][]int{{2, 1, 0}, {1, 0}, {0}, {1, 2}, {2, 3, 1}, {3, -1}, {30, 1}, {29, 2}, {31}, ones(31)} {
		for size := 2; size <= impl.MaxRunners; size++ {
			wantNoRegular(t, p, size)
		}
	}
}

func TestArrowInvalidSizes(t *testing.T) {
	for _, size := range badRunners() {
		for _, p := range [][]int{nil, {1}, {2, 1}, {4, 2, 2, 1}, {30}, ones(30)} {
			wantNoRegular(t, p, size)
		}
		for _, word := range [][]int{nil, {0}, {1, 0}, {0, 0}} {
			made, ok := impl.ArrowByWord(size, word)
			wantNoList(t, fmt.Sprint("by word for ", size), word, made, ok)
		}
		for _, at := range []cell{{0, 0}, {1, 1}, {30, 30}} {
			ladder, ok := impl.LadderOf(at.row, at.column, size)
			wantNoValue(t, fmt.Sprint("ladder for ", size), at, ladder, ok)
		}
	}
}

func TestArrowLadderEdges(t *testing.T) {
	for size := 2; size <= impl.MaxRunners; size++ {
		for _, of := range []struct{ r, c, want int }{
			{0, 0, 0}, {1, 0, 1}, {0, 1, size - 1}, {30, 0, 30}, {0, 30, 30*size - 30}, {30, 30, 30 * size}, {29, 30, 30*size - 1}, {30, 29, 29*size + 1},
		} {
			ladder, ok := impl.LadderOf(of.r, of.c, size)
			wantValue(t, fmt.Sprint("ladder for ", size), cell{of.r, of.c}, ladder, of.want, ok)
		}
		for _, bad := range []int{31, 32, 60, 1 << 32, math.MaxInt, math.MaxInt - 1, -1, -2, -30, math.MinInt, math.MinInt + 1} {
			for _, good := range []int{0, 1, 30, bad} {
				ladder, ok := impl.LadderOf(bad, good, size)
				wantNoValue(t, fmt.Sprint("ladder for ", size), cell{bad, good}, ladder, ok)
				ladder, ok = impl.LadderOf(good, bad, size)
				wantNoValue(t, fmt.Sprint("ladder for ", size), cell{good, bad}, ladder, ok)
			}
		}
	}
}

func TestArrowRegularOfEdges(t *testing.T) {
	for _, of := range []struct {
		size    int
		p, want []int
	}{
		{2, []int{2, 1}, []int{2, 1}}, {2, []int{9, 8, 7, 6}, []int{9, 8, 7, 6}}, {3, []int{5, 5, 3, 3}, []int{5, 5, 3, 3}}, {6, ones(5), ones(5)}, {6, slices.Repeat([]int{6}, 5), slices.Repeat([]int{6}, 5)}, // regular
		{2, []int{2, 2}, []int{3, 1}}, {2, []int{3, 3, 3}, []int{5, 3, 1}}, {2, []int{15, 15}, []int{16, 14}}, {2, []int{10, 10, 10}, []int{12, 10, 8}}, {2, slices.Repeat([]int{2}, 15), []int{16, 14}}, // equal parts
		{3, []int{2, 2, 2}, []int{3, 2, 1}}, {3, []int{10, 10, 10}, []int{11, 10, 9}}, {3, []int{2, 1, 1, 1}, []int{2, 2, 1}}, {4, []int{2, 2, 2, 2}, []int{3, 2, 2, 1}}, {5, ones(5), []int{2, 1, 1, 1}}, {6, slices.Repeat([]int{5}, 6), []int{6, 5, 5, 5, 5, 4}},
		{2, []int{3, 2, 2, 1}, []int{4, 3, 1}}, {2, []int{4, 1, 1}, []int{4, 2}}, {3, []int{4, 1, 1, 1}, []int{4, 2, 1}}, // some parts equal
	} {
		regular, ok := impl.RegularOf(of.p, of.size)
		wantList(t, fmt.Sprint("regular for ", of.size), of.p, regular, of.want, ok)
	}
	// A column goes to size - 1 rows, one cell after the other.
	for size := 2; size <= impl.MaxRunners; size++ {
		for n := 1; n <= impl.MaxCells; n++ {
			var want []int
			for k := range min(n, size-1) {
				want = append(want, (n-1-k)/(size-1)+1)
			}
			regular, ok := impl.RegularOf(ones(n), size)
			wantList(t, fmt.Sprint("regular for ", size), ones(n), regular, want, ok)
			regular, ok = impl.RegularOf([]int{n}, size)
			wantList(t, fmt.Sprint("regular for ", size), n, regular, []int{n}, ok)
		}
	}
}

func TestArrowAboveEdges(t *testing.T) {
	for _, of := range []struct {
		p, q         []int
		above, below bool
	}{
		{[]int{1}, []int{1}, true, true}, {[]int{4, 2, 1}, []int{4, 2, 1}, true, true}, {[]int{30}, []int{30}, true, true}, {ones(30), ones(30), true, true}, // itself
		{[]int{2}, []int{1, 1}, true, false}, {[]int{30}, ones(30), true, false}, {[]int{30}, []int{15, 15}, true, false}, {[]int{29, 1}, []int{28, 2}, true, false}, {[]int{2, 2, 1}, []int{2, 1, 1, 1}, true, false},
		{[]int{4, 1, 1}, []int{3, 3}, false, false}, {[]int{3, 1, 1, 1}, []int{2, 2, 2}, false, false}, {[]int{5, 1, 1}, []int{4, 3}, false, false}, {[]int{5, 2, 2}, []int{4, 4, 1}, false, false}, {[]int{28, 1, 1}, []int{15, 15}, false, false}, // none of both
		{[]int{5, 2, 2, 1}, []int{5, 2, 1, 1, 1}, true, false}, {[]int{4, 4, 1, 1}, []int{4, 3, 3}, false, false}, {[]int{6, 3, 1}, []int{5, 5}, false, false}, // other numbers of parts
		{[]int{4, 4, 2}, []int{4, 3, 3}, true, false}, {[]int{4, 4, 2}, []int{5, 3, 2}, false, true}, {[]int{4, 3, 2, 1}, []int{4, 3, 3}, false, true},
		{[]int{2}, []int{1}, false, false}, {[]int{1, 1}, []int{1}, false, false}, {[]int{3}, []int{2}, false, false}, {[]int{30}, []int{29}, false, false}, {[]int{4, 2, 1}, []int{4, 2}, false, false}, {[]int{3, 3}, []int{3, 2}, false, false}, {[]int{2, 1}, []int{1, 1, 1, 1}, false, false}, // other numbers of cells
	} {
		isAbove, ok := impl.IsAbove(of.p, of.q)
		wantValue(t, "whether above", fmt.Sprint(of.p, " and ", of.q), isAbove, of.above, ok)
		isAbove, ok = impl.IsAbove(of.q, of.p)
		wantValue(t, "whether above", fmt.Sprint(of.q, " and ", of.p), isAbove, of.below, ok)
	}
}
