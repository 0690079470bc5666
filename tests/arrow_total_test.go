package tests

import (
	"fmt"
	"math"
	"slices"
	"strings"
	"testing"

	"loop.example/g01136/impl"
)

// Promise 11 for residues, signatures and arrows.

// arrowCalls take one list, a size and a residue.
func arrowCalls(size, i int) []call {
	name := func(function string) string { return fmt.Sprint(function, " for ", size, " at ", i) }
	return []call{
		{name("SignatureOf"), func(l [][]int) []any { return results(impl.SignatureOf(l[0], size, i)) }},
		{name("ArrowUp"), func(l [][]int) []any { return results(impl.ArrowUp(l[0], size, i)) }},
		{name("ArrowDown"), func(l [][]int) []any { return results(impl.ArrowDown(l[0], size, i)) }},
		{name("ArrowCounts"), func(l [][]int) []any {
			takes, adds, ok := impl.ArrowCounts(l[0], size, i)
			return []any{takes, adds, ok}
		}},
	}
}

// regularCalls take one list and a size.
func regularCalls(size int) []call {
	name := func(function string) string { return fmt.Sprint(function, " for ", size) }
	return []call{
		{name("IsRegular"), func(l [][]int) []any { return results(impl.IsRegular(l[0], size)) }},
		{name("ArrowWord"), func(l [][]int) []any { return results(impl.ArrowWord(l[0], size)) }},
		{name("ArrowByWord"), func(l [][]int) []any { return results(impl.ArrowByWord(size, l[0])) }},
		{name("MirrorOf"), func(l [][]int) []any { return results(impl.MirrorOf(l[0], size)) }},
		{name("RegularOf"), func(l [][]int) []any { return results(impl.RegularOf(l[0], size)) }},
	}
}

func isAbove() call {
	return call{"IsAbove", func(l [][]int) []any { return results(impl.IsAbove(l[0], l[1])) }}
}

// reachedCalls take a size and a number.
func reachedCalls(size, n int) []call {
	list := []call{
		{fmt.Sprint("RegularWith ", size, n), func([][]int) []any { return results(impl.RegularWith(size, n)) }},
		{fmt.Sprint("ReachedByArrows ", size, n), func([][]int) []any { return results(impl.ReachedByArrows(size, n)) }},
	}
	for _, other := range append(extremes(), 4, 5, 6) {
		list = append(list,
			call{fmt.Sprint("LadderOf ", n, other, size), func([][]int) []any { return results(impl.LadderOf(n, other, size)) }},
			call{fmt.Sprint("LadderOf ", other, n, size), func([][]int) []any { return results(impl.LadderOf(other, n, size)) }})
	}
	return list
}

func reducedSignature(text string) call {
	return call{fmt.Sprintf("ReducedSignature %.40q", text), func([][]int) []any { return results(impl.ReducedSignature(text)) }}
}

// arrowInputs returns lists of all kinds: partitions that are regular and others, words and others.
func arrowInputs() [][]int {
	lists := oddLists()
	for size := 2; size <= impl.MaxRunners; size++ {
		for _, p := range [][]int{{4, 2, 1}, {3, 1}, {6, 5, 4}, {29}, {30}, {8, 7, 6, 5, 4}} {
			lists = append(lists, p, arrowsDown(p, size))
		}
		lists = append(lists, slices.Repeat([]int{3}, size-1), slices.Repeat([]int{3}, size), rowWord(30, size), rowWord(31, size), append([]int{size}, rowWord(4, size)...), append(rowWord(4, size), size))
	}
	for _, number := range extremes() {
		lists = append(lists, []int{number, 1, 0}, []int{1, number, 0}, []int{1, 0, number}, []int{5, number}, []int{number, 2, 1})
	}
	return append(lists, ones(29), []int{6, 5, 3, 2, 1}, []int{10, 10, 10}, []int{15, 14}, make([]int, 30), make([]int, 31), make([]int, 100000))
}

func TestTotalArrowLists(t *testing.T) {
	for _, list := range arrowInputs() {
		for _, size := range oddSizes() {
			for _, do := range regularCalls(size) {
				tryCall(t, do, list)
			}
		}
	}
}

func TestTotalArrowResidues(t *testing.T) {
	for _, list := range arrowInputs() {
		if len(list) > 1000 {
			continue // each call copies the list
		}
		for _, size := range edgeRunners() {
			for _, i := range append(extremes(), 4, 5, 6) {
				for _, do := range arrowCalls(size, i) {
					tryCall(t, do, list)
				}
			}
		}
	}
	for _, do := range slices.Concat(arrowCalls(2, 0), arrowCalls(6, 5), arrowCalls(math.MaxInt, 0), arrowCalls(0, 0)) {
		tryCall(t, do, ones(100000))
	}
}

func TestTotalArrowPairs(t *testing.T) {
	for _, list := range arrowInputs() {
		for _, other := range [][]int{{}, {1}, {30}, ones(30), {3, 2, 1}, {1, 2}, {math.MaxInt}, {math.MinInt, math.MinInt}, list} {
			tryCall(t, isAbove(), list, other)
			tryCall(t, isAbove(), other, list)
		}
	}
}

func TestTotalArrowNumbers(t *testing.T) {
	for _, size := range oddSizes() {
		for _, n := range slices.Concat(extremes(), []int{4, 5, 6, 10, 11, 12, 13}) {
			for _, do := range reachedCalls(size, n) {
				tryCall(t, do)
			}
		}
	}
}

func TestTotalArrowTexts(t *testing.T) {
	texts := []string{"", "A", "R", "AR", "RA", "AARR", "a", "r", "B", " ", "\n", "\x00", "\xff\xfe", "A\xffR", "0", "R\u0410"}
	for _, part := range []string{"A", "R", "AR", "RA", "AAR", "\x00", "b"} {
		for _, size := range []int{98, 99, 100, 101, 102, 1 << 20} {
			texts = append(texts, strings.Repeat(part, size)[:size])
		}
	}
	for _, text := range texts {
		tryCall(t, reducedSignature(text))
	}
}

// Results of earlier calls may be written to, and no cells, regular partitions and words that stay are no arguments.
func TestTotalArrowResultsApart(t *testing.T) {
	p, none := guarded([]int{4, 2, 1}), guarded(nil)
	for range 2 {
		up, ok := impl.ArrowUp(p, 3, 1)
		wantList(t, "arrow up for 3 at 1", p, up, []int{5, 2, 1}, ok)
		scribble(up, 555)
		down, ok := impl.ArrowDown(p, 3, 0)
		wantList(t, "arrow down for 3 at 0", p, down, []int{4, 1, 1}, ok)
		scribble(down, 555)
		regular, ok := impl.RegularOf(p, 3)
		wantList(t, "regular for 3", p, regular, []int{4, 2, 1}, ok)
		scribble(regular, 555)
		mirror, ok := impl.MirrorOf(p, 2)
		wantList(t, "mirror for 2", p, mirror, []int{4, 2, 1}, ok)
		scribble(mirror, 555)
		for _, list := range []func(int, int) ([][]int, bool){impl.RegularWith, impl.ReachedByArrows} {
			four, ok := list(2, 4)
			wantRows(t, "lists for 2", 4, four, [][]int{{4}, {3, 1}}, ok)
			scribble(four, 555)
		}
		for _, list := range []func([]int, int) ([]int, bool){impl.RegularOf, impl.MirrorOf, impl.ArrowWord} {
			same, ok := list(none, 3)
			wantList(t, "what no cells become for 3", none, same, nil, ok)
			scribble(same, 555)
		}
		made, ok := impl.ArrowByWord(3, none)
		wantList(t, "by no residues for 3", none, made, nil, ok)
		scribble(made, 555)
	}
	if !slices.Equal(whole(p)[:7], []int{4, 2, 1, guard, guard, guard, guard}) {
		t.Error("an argument is changed", whole(p))
	}
	if !slices.Equal(whole(none)[:4], []int{guard, guard, guard, guard}) {
		t.Error("the memory behind no cells is changed", whole(none))
	}
}
