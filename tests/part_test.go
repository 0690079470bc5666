package tests

import (
	"fmt"
	"slices"
	"strings"
	"testing"

	"loop.example/g01136/impl"
)

// Promise 1: ordinary partitions against the model.

func TestPartExample(t *testing.T) {
	p := []int{4, 2, 1}
	if !impl.IsPartition(p) {
		t.Error("4 2 1 is a partition")
	}
	cells, ok := impl.CellsOf(p)
	wantValue(t, "cells", p, cells, 7, ok)
	turn, ok := impl.ConjugateOf(p)
	wantList(t, "conjugate", p, turn, []int{3, 2, 1, 1}, ok)
	hooks, ok := impl.HooksOf(p)
	wantRows(t, "hooks", p, hooks, [][]int{{6, 4, 2, 1}, {3, 1}, {1}}, ok)
	contents, ok := impl.ContentsOf(p)
	wantRows(t, "contents", p, contents, [][]int{{0, 1, 2, 3}, {-1, 0}, {-2}}, ok)
	word, ok := impl.BorderWord(p)
	wantValue(t, "border", p, word, "RURURRU", ok)
	rim, ok := impl.RimHook(p, 0, 1)
	wantRows(t, "rim 0 1", p, rim, [][]int{{1, 1}, {0, 1}, {0, 2}, {0, 3}}, ok)
	left, leg, ok := impl.WithoutRim(p, 0, 1)
	wantList(t, "without rim 0 1", p, left, []int{1, 1, 1}, ok)
	wantValue(t, "leg 0 1", p, leg, 1, ok)
	corners, ok := impl.CornersOf(p)
	wantList(t, "corners", p, corners, []int{0, 1, 2}, ok)
	addable, ok := impl.AddableOf(p)
	wantList(t, "addable", p, addable, []int{0, 1, 2, 3}, ok)
	text, ok := impl.PartText(p)
	wantValue(t, "text", p, text, "4+2+1", ok)
	// In front of it are 7, 6 1, 5 2, 5 1 1 and 4 3.
	rank, ok := impl.RankPartition(p)
	wantValue(t, "rank", p, rank, 5, ok)
}

func TestPartCellsAndConjugates(t *testing.T) {
	for _, p := range samples() {
		if !impl.IsPartition(p) {
			t.Errorf("%v is a partition", p)
		}
		cells, ok := impl.CellsOf(p)
		wantValue(t, "cells", p, cells, len(draw(p)), ok)
		turn, ok := impl.ConjugateOf(p)
		wantList(t, "conjugate", p, turn, turned(p), ok)
		again, ok := impl.ConjugateOf(turn)
		wantList(t, "conjugate again", turn, again, p, ok)
	}
}

func TestPartHooksAndContents(t *testing.T) {
	for _, p := range samples() {
		cells := draw(p)
		hooks, contents := make([][]int, len(p)), make([][]int, len(p))
		for r, part := range p {
			for c := range part {
				want := cells.hook(cell{r, c})
				hook, ok := impl.HookAt(p, r, c)
				wantValue(t, fmt.Sprint("hook ", r, c), p, hook, want, ok)
				hooks[r] = append(hooks[r], want)
				contents[r] = append(contents[r], c-r)
			}
		}
		got, ok := impl.HooksOf(p)
		wantRows(t, "hooks", p, got, hooks, ok)
		got, ok = impl.ContentsOf(p)
		wantRows(t, "contents", p, got, contents, ok)
	}
}

func TestPartSquares(t *testing.T) {
	for n := 0; n <= impl.MaxCells; n++ {
		for _, p := range partitions(n) {
			hooks, ok := impl.HooksOf(p)
			contents, ok2 := impl.ContentsOf(p)
			wantValue(t, "squares", p, squares(hooks)-squares(contents), n*n, ok && ok2)
		}
	}
}

func squares(rows [][]int) int {
	sum := 0
	for _, row := range rows {
		for _, number := range row {
			sum += number * number
		}
	}
	return sum
}

func TestPartBorders(t *testing.T) {
	for n := 0; n <= impl.MaxCells; n++ {
		for _, p := range partitions(n) {
			word, ok := impl.BorderWord(p)
			wantValue(t, "border", p, word, border(p), ok)
			q, ok := impl.FromBorder(border(p))
			wantList(t, "partition with border", border(p), q, p, ok)
		}
	}
}

// All words of few letters are tried: each is a border word of one partition, or of none.
func TestPartAllShortBorders(t *testing.T) {
	words := []string{""}
	for len(words[0]) <= 9 {
		var longer []string
		for _, w := range words {
			checkBorder(t, w)
			longer = append(longer, w+"R", w+"U")
		}
		words = longer
	}
}

func checkBorder(t *testing.T, w string) {
	t.Helper()
	var p []int
	column := 0
	for _, letter := range w {
		if letter == 'R' {
			column++
		} else {
			p = slices.Insert(p, 0, column)
		}
	}
	q, ok := impl.FromBorder(w)
	ends := w == "" || strings.HasPrefix(w, "R") && strings.HasSuffix(w, "U")
	if !ends || len(draw(p)) > impl.MaxCells {
		wantNoList(t, "partition with border", w, q, ok)
		return
	}
	wantList(t, "partition with border", w, q, p, ok)
	word, ok := impl.BorderWord(q)
	wantValue(t, "border again", q, word, w, ok)
}

func TestPartCornersAndAddable(t *testing.T) {
	for _, p := range samples() {
		cells := draw(p)
		var corners, addable []int
		for r, part := range append(slices.Clone(p), 0) {
			if part > 0 {
				if _, fits := read(cells.without([]cell{{r, part - 1}})); fits {
					corners = append(corners, r)
				}
			}
			if _, fits := read(cells.with(cell{r, part})); fits {
				addable = append(addable, r)
			}
		}
		got, ok := impl.CornersOf(p)
		wantList(t, "corners", p, got, corners, ok)
		got, ok = impl.AddableOf(p)
		wantList(t, "addable", p, got, addable, ok)
	}
}

func TestPartRims(t *testing.T) {
	for _, p := range samples() {
		cells := draw(p)
		for at := range cells {
			rim := cells.rim(at)
			var want [][]int
			for _, of := range rim {
				want = append(want, []int{of.row, of.column})
			}
			what := fmt.Sprint("rim ", at)
			got, ok := impl.RimHook(p, at.row, at.column)
			wantRows(t, what, p, got, want, ok)
			hook, ok := impl.HookAt(p, at.row, at.column)
			wantValue(t, what+" cells", p, len(got), hook, ok)

			rest, _ := read(cells.without(rim))
			left, leg, ok := impl.WithoutRim(p, at.row, at.column)
			wantList(t, what+" left", p, left, rest, ok)
			wantValue(t, what+" leg", p, leg, cells.leg(at), ok)
			wantValue(t, what+" rows less 1", p, leg, got[0][0]-got[len(got)-1][0], ok)
		}
	}
}

func TestPartInside(t *testing.T) {
	var list [][]int
	for n := 0; n <= 6; n++ {
		list = append(list, partitions(n)...)
	}
	list = append(list, []int{30}, ones(30), []int{15, 15}, []int{10, 10, 10}, []int{7, 6, 5, 4, 3, 2, 1})
	for _, p := range list {
		for _, q := range list {
			want := true
			cells := draw(q)
			for at := range draw(p) {
				want = want && cells[at]
			}
			got, ok := impl.IsInside(p, q)
			wantValue(t, fmt.Sprint("inside ", q), p, got, want, ok)
		}
	}
}

func TestPartCountsAndRanks(t *testing.T) {
	for n := 0; n <= impl.MaxCells; n++ {
		all := partitions(n)
		count, ok := impl.CountPartitions(n)
		wantValue(t, "count", n, count, len(all), ok)
		for k, p := range all {
			rank, ok := impl.RankPartition(p)
			wantValue(t, "rank", p, rank, k, ok)
			q, ok := impl.PartitionWith(n, k)
			wantList(t, "partition with", [2]int{n, k}, q, p, ok)
		}
		p, ok := impl.PartitionWith(n, len(all))
		wantNoList(t, "partition behind the last one", n, p, ok)
		p, ok = impl.PartitionWith(n, -1)
		wantNoList(t, "partition in front of the first one", n, p, ok)
	}
}

func TestPartLists(t *testing.T) {
	for n := 0; n <= impl.MaxListedCells; n++ {
		list, ok := impl.AllPartitions(n)
		wantRows(t, "all", n, list, partitions(n), ok)
	}
}

func TestPartTexts(t *testing.T) {
	for _, p := range samples() {
		want := strings.ReplaceAll(strings.Trim(fmt.Sprint(p), "[]"), " ", "+")
		if len(p) == 0 {
			want = "0"
		}
		text, ok := impl.PartText(p)
		wantValue(t, "text", p, text, want, ok)
		q, ok := impl.ParsePart(want)
		wantList(t, "partition with text", want, q, p, ok)
	}
}
