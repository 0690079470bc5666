package tests

import (
	"fmt"
	"slices"
	"strings"
	"testing"

	"loop.example/g01136/impl"
)

// Promise 8: all partitions of small numbers of cells, all sizes, residues, short texts and short words, against the model.

func TestArrowExample(t *testing.T) {
	one, two := []int{1}, []int{2}
	signature, ok := impl.SignatureOf(one, 2, 1)
	wantValue(t, "signature for 2 at 1", one, signature, "AA", ok)
	up, ok := impl.ArrowUp(one, 2, 1)
	wantList(t, "arrow up for 2 at 1", one, up, two, ok)
	signature, ok = impl.SignatureOf(two, 2, 1)
	wantValue(t, "signature for 2 at 1", two, signature, "RA", ok)
	up, ok = impl.ArrowUp(two, 2, 1)
	wantList(t, "arrow up for 2 at 1", two, up, []int{2, 1}, ok)
	down, ok := impl.ArrowDown([]int{2, 1}, 2, 1)
	wantList(t, "arrow down for 2 at 1", "2 1", down, two, ok)
	checkCounts(t, two, 2, 1, 1, 1)
	column := []int{1, 1}
	isRegular, ok := impl.IsRegular(column, 2)
	wantValue(t, "whether regular for 2", column, isRegular, false, ok)
	regular, ok := impl.RegularOf(column, 2)
	wantList(t, "regular for 2", column, regular, two, ok)
	for _, at := range []cell{{1, 0}, {0, 1}} {
		ladder, ok := impl.LadderOf(at.row, at.column, 2)
		wantValue(t, "ladder for 2", at, ladder, 1, ok)
	}
	isAbove, ok := impl.IsAbove(two, column)
	wantValue(t, "whether above", "2 and 1 1", isAbove, true, ok)
	word, ok := impl.ArrowWord([]int{2, 1}, 2)
	wantList(t, "word for 2", "2 1", word, []int{1, 1, 0}, ok)
	made, ok := impl.ArrowByWord(2, word)
	wantList(t, "by word for 2", word, made, []int{2, 1}, ok)
	mirror, ok := impl.MirrorOf([]int{2, 1}, 5)
	wantList(t, "mirror for 5", "2 1", mirror, []int{2, 1}, ok)
	lists, ok := impl.RegularWith(2, 5)
	wantRows(t, "regular for 2", 5, lists, [][]int{{5}, {4, 1}, {3, 2}}, ok)
	lists, ok = impl.ReachedByArrows(2, 5)
	wantRows(t, "reached for 2", 5, lists, [][]int{{5}, {4, 1}, {3, 2}}, ok)
}

// checkCounts wants so many letters R and A left.
func checkCounts(t *testing.T, p []int, size, i, takes, adds int) {
	t.Helper()
	down, up, ok := impl.ArrowCounts(p, size, i)
	if down != takes || up != adds || !ok {
		t.Errorf("letters left of %v for %d at %d: %d %d %v, want %d %d true", p, size, i, down, up, ok, takes, adds)
	}
}

func TestArrowSignatures(t *testing.T) {
	eachPartition(func(p []int, size int) {
		marks := marksOfBorder(p)
		for i := range size {
			from := fmt.Sprint(p, " for ", size, " at ", i)
			want := lettersOf(withResidue(marks, size, i))
			signature, ok := impl.SignatureOf(p, size, i)
			wantValue(t, "signature", from, signature, want, ok)
			left := lettersOf(marksLeft(withResidue(marks, size, i)))
			reduced, ok := impl.ReducedSignature(signature)
			wantValue(t, "reduced signature", from, reduced, left, ok)
			checkCounts(t, p, size, i, strings.Count(left, "R"), strings.Count(left, "A"))
		}
	})
}

func TestArrowSignaturesByCells(t *testing.T) {
	eachSized(func(p []int, size int) {
		if sumOf(p) > 16 {
			return
		}
		for i := range size {
			signature, ok := impl.SignatureOf(p, size, i)
			wantValue(t, fmt.Sprint("signature for ", size, " at ", i), p, signature, signatureByCells(p, size, i), ok)
		}
	})
}

func TestArrowShortTexts(t *testing.T) {
	texts := []string{""}
	for range 13 {
		var longer []string
		for _, text := range texts {
			reduced, ok := impl.ReducedSignature(text)
			wantValue(t, "reduced", text, reduced, rewritten(text), ok)
			again, ok := impl.ReducedSignature(reduced)
			wantValue(t, "reduced twice", text, again, reduced, ok)
			left := ""
			for k := range len(text) {
				if isLeft(text, k) {
					left += text[k : k+1]
				}
			}
			wantValue(t, "letters left", text, reduced, left, ok)
			longer = append(longer, text+"A", text+"R")
		}
		texts = longer
	}
}

// In whatever order pairs are taken away, the same is left.
func TestArrowTextsInAllWays(t *testing.T) {
	texts := []string{""}
	for range 9 {
		var longer []string
		for _, text := range texts {
			reduced, _ := impl.ReducedSignature(text)
			for k := range len(text) {
				if strings.HasPrefix(text[k:], "AR") {
					less, ok := impl.ReducedSignature(text[:k] + text[k+2:])
					wantValue(t, fmt.Sprint("reduced without the pair at ", k), text, less, reduced, ok)
				}
			}
			longer = append(longer, text+"A", text+"R")
		}
		texts = longer
	}
}

func TestArrowArrows(t *testing.T) {
	eachPartition(func(p []int, size int) {
		if sumOf(p) > 20 && sumOf(p) < impl.MaxCells-1 {
			return
		}
		for i := range size {
			from := fmt.Sprint(p, " for ", size, " at ", i)
			more, isThere := upByMarks(p, size, i)
			up, ok := impl.ArrowUp(p, size, i)
			if isThere && sumOf(more) <= impl.MaxCells {
				wantList(t, "arrow up", from, up, more, ok)
			} else {
				wantNoList(t, "arrow up", from, up, ok)
			}
			less, isThere := downByMarks(p, size, i)
			down, ok := impl.ArrowDown(p, size, i)
			if isThere {
				wantList(t, "arrow down", from, down, less, ok)
			} else {
				wantNoList(t, "arrow down", from, down, ok)
			}
		}
	})
}

// Each arrow, from regular partitions and others, is undone by the other one, changes the counts by 1 and keeps what is regular.
func TestArrowUndone(t *testing.T) {
	eachSized(func(p []int, size int) {
		for i := range size {
			from := fmt.Sprint(p, " for ", size, " at ", i)
			takes, adds, _ := impl.ArrowCounts(p, size, i)
			if up, ok := impl.ArrowUp(p, size, i); ok {
				again, ok := impl.ArrowDown(up, size, i)
				wantList(t, "arrow down behind the arrow up", from, again, p, ok)
				checkCounts(t, up, size, i, takes+1, adds-1)
				wantValue(t, "whether regular behind the arrow up", from, hasEqual(up, size), hasEqual(p, size), ok)
			}
			if down, ok := impl.ArrowDown(p, size, i); ok {
				again, ok := impl.ArrowUp(down, size, i)
				wantList(t, "arrow up behind the arrow down", from, again, p, ok)
				checkCounts(t, down, size, i, takes-1, adds+1)
				wantValue(t, "whether regular behind the arrow down", from, hasEqual(down, size), hasEqual(p, size), ok)
			}
		}
	})
}

// As many arrows can be made, one after the other, as letters are left.
func TestArrowChains(t *testing.T) {
	eachSized(func(p []int, size int) {
		for i := range size {
			from := fmt.Sprint(p, " for ", size, " at ", i)
			takes, adds, _ := impl.ArrowCounts(p, size, i)
			wantValue(t, "arrows up", from, steps(p, func(q []int) ([]int, bool) { return impl.ArrowUp(q, size, i) }), min(adds, impl.MaxCells-sumOf(p)), true)
			wantValue(t, "arrows down", from, steps(p, func(q []int) ([]int, bool) { return impl.ArrowDown(q, size, i) }), takes, true)
		}
	})
}

// steps returns how often a partition can be changed.
func steps(p []int, change func([]int) ([]int, bool)) int {
	count := 0
	for next, ok := change(p); ok; next, ok = change(next) {
		count++
	}
	return count
}

func TestArrowIsRegular(t *testing.T) {
	eachPartition(func(p []int, size int) {
		isRegular, ok := impl.IsRegular(p, size)
		wantValue(t, fmt.Sprint("whether regular for ", size), p, isRegular, !hasEqual(p, size), ok)
	})
}

// Arrows up reach exactly the regular partitions.
func TestArrowLists(t *testing.T) {
	for size := 2; size <= impl.MaxRunners; size++ {
		for n := 0; n <= impl.MaxReached; n++ {
			from := fmt.Sprint(n, " for ", size)
			want := regularPartitions(size, n)
			regular, ok := impl.RegularWith(size, n)
			wantRows(t, "regular partitions", from, regular, want, ok)
			reached, ok := impl.ReachedByArrows(size, n)
			wantRows(t, "reached partitions", from, reached, want, ok)
		}
	}
}

func TestArrowWords(t *testing.T) {
	eachRegular(func(p []int, size int) {
		from := fmt.Sprint(p, " for ", size)
		want := arrowsDown(p, size)
		word, ok := impl.ArrowWord(p, size)
		wantList(t, "word", from, word, want, ok)
		wantValue(t, "length of the word", from, len(word), sumOf(p), true)
		made, ok := impl.ArrowByWord(size, word)
		wantList(t, "by its word", from, made, p, ok)
		residues := make([]int, size)
		for _, i := range word {
			residues[i]++
		}
		wantList(t, "residues of the word", from, residues, residuesByCells(p, size), true)
	})
}

func TestArrowNotRegularWords(t *testing.T) {
	eachPartition(func(p []int, size int) {
		if hasEqual(p, size) {
			word, ok := impl.ArrowWord(p, size)
			wantNoList(t, fmt.Sprint("word for ", size), p, word, ok)
			mirror, ok := impl.MirrorOf(p, size)
			wantNoList(t, fmt.Sprint("mirror for ", size), p, mirror, ok)
		}
	})
}

func TestArrowByShortWords(t *testing.T) {
	for size := 2; size <= impl.MaxRunners; size++ {
		words := [][]int{nil}
		for length := 0; len(words) < 3000; length++ {
			for _, word := range words {
				checkArrows(t, size, word)
			}
			words = longerWords(words, size)
		}
	}
}

// checkArrows wants what the model makes of a word, and reports whether it makes something.
func checkArrows(t *testing.T, size int, word []int) bool {
	t.Helper()
	from := fmt.Sprint(word, " for ", size)
	want, fits := arrowsUp(size, word)
	got, ok := impl.ArrowByWord(size, word)
	if fits {
		wantList(t, "by word", from, got, want, ok)
	} else {
		wantNoList(t, "by word", from, got, ok)
	}
	return fits
}

// Longer words, with the residues of a regular partition in other orders.
func TestArrowByLongWords(t *testing.T) {
	made, failed := 0, 0
	eachRegular(func(p []int, size int) {
		if sumOf(p) < 8 {
			return
		}
		word := arrowsDown(p, size)
		for k := 0; k+1 < len(word); k += 3 {
			other := slices.Clone(word)
			other[k], other[k+1] = word[k+1], word[k]
			if checkArrows(t, size, other) {
				made++
			} else {
				failed++
			}
		}
	})
	if made < 100 || failed < 100 {
		t.Errorf("%d words are made, %d fail: too few of one kind", made, failed)
	}
}

func TestArrowMirrors(t *testing.T) {
	eachRegular(func(p []int, size int) {
		from := fmt.Sprint(p, " for ", size)
		want, fits := arrowsUp(size, mirrored(arrowsDown(p, size), size))
		mirror, ok := impl.MirrorOf(p, size)
		wantList(t, "mirror", from, mirror, want, ok && fits)
		wantValue(t, "cells of the mirror", from, sumOf(mirror), sumOf(p), true)
		wantValue(t, "whether the mirror is not regular", from, hasEqual(mirror, size), false, true)
		twice, ok := impl.MirrorOf(mirror, size)
		wantList(t, "mirror of the mirror", from, twice, p, ok)
		switch {
		case size == 2:
			wantList(t, "mirror", from, mirror, p, ok)
		case size > sumOf(p):
			wantList(t, "mirror", from, mirror, turned(p), ok)
		}
	})
}

// What is known of mirrors without arrows: Mullineux's symbols, and the conjugate of the core.
func TestArrowMirrorSymbols(t *testing.T) {
	eachRegular(func(p []int, size int) {
		from := fmt.Sprint(p, " for ", size)
		mirror, ok := impl.MirrorOf(p, size)
		got, want := symbolOf(mirror, size), mirroredSymbol(symbolOf(p, size), size)
		if !ok || !slices.Equal(got, want) {
			t.Errorf("symbol of the mirror of %s: %v %v, want %v true", from, got, ok, want)
		}
		core, _ := impl.CoreOf(p, size)
		other, ok := impl.CoreOf(mirror, size)
		wantList(t, "core of the mirror", from, other, turned(core), ok)
	})
}

// A core is reflected by all arrows there are at a residue.
func TestArrowReflectedCores(t *testing.T) {
	eachCore(func(p []int, size int) {
		for i := range size {
			core, ok := impl.ReflectCore(p, size, i)
			if !ok {
				continue
			}
			made := p
			arrow := impl.ArrowUp
			if sumOf(core) < sumOf(p) {
				arrow = impl.ArrowDown
			}
			for next, ok := arrow(made, size, i); ok; next, ok = arrow(made, size, i) {
				made = next
			}
			wantList(t, fmt.Sprint("all arrows for ", size, " at ", i), p, made, core, ok)
		}
	})
}

func TestArrowLadders(t *testing.T) {
	for size := 2; size <= impl.MaxRunners; size++ {
		for r := range impl.MaxCells + 1 {
			for c := range impl.MaxCells + 1 {
				ladder, ok := impl.LadderOf(r, c, size)
				wantValue(t, fmt.Sprint("ladder for ", size), cell{r, c}, ladder, ladderByWalk(cell{r, c}, size), ok)
			}
		}
	}
}

func TestArrowRegularByMoves(t *testing.T) {
	eachSized(func(p []int, size int) {
		regular, ok := impl.RegularOf(p, size)
		wantList(t, fmt.Sprint("regular for ", size), p, regular, regularByMoves(p, size), ok)
	})
}

// All partitions there are become regular, with as many cells on each ladder, and those that are regular stay.
func TestArrowRegularOfAllPartitions(t *testing.T) {
	eachPartition(func(p []int, size int) {
		from := fmt.Sprint(p, " for ", size)
		regular, ok := impl.RegularOf(p, size)
		if !ok || !impl.IsPartition(regular) || hasEqual(regular, size) {
			t.Errorf("regular of %s: %v %v, want a regular partition and true", from, regular, ok)
		}
		if laddersOf(regular, size) != laddersOf(p, size) {
			t.Errorf("regular of %s: %v has other ladders", from, regular)
		}
		wantValue(t, "whether regular stays", from, slices.Equal(regular, p), !hasEqual(p, size), ok)
		isAbove, ok := impl.IsAbove(regular, p)
		wantValue(t, "whether regular is above", from, isAbove, true, ok)
	})
}

// laddersOf counts the cells on each ladder.
func laddersOf(p []int, size int) [200]int {
	var counts [200]int
	for r, part := range p {
		for c := range part {
			counts[r+size*c-c]++
		}
	}
	return counts
}

func TestArrowAbove(t *testing.T) {
	for n := 0; n <= 11; n++ {
		for _, p := range partitions(n) {
			below := belowByMoves(p)
			for _, q := range partitions(n) {
				from := fmt.Sprint(p, " and ", q)
				isAbove, ok := impl.IsAbove(p, q)
				wantValue(t, "whether above", from, isAbove, below[fmt.Sprint(q)], ok)
				wantValue(t, "whether above by sums", from, isAbove, isAboveBySums(p, q), ok)
				back, ok := impl.IsAbove(turned(q), turned(p))
				wantValue(t, "whether above, both turned", from, back, isAbove, ok)
			}
		}
	}
}

func TestArrowAboveOfOtherNumbers(t *testing.T) {
	list := samples()
	for k, p := range list {
		for step := range 20 {
			q := list[(k+step*step)%len(list)]
			isAbove, ok := impl.IsAbove(p, q)
			wantValue(t, "whether above", fmt.Sprint(p, " and ", q), isAbove, isAboveBySums(p, q), ok)
		}
	}
}
