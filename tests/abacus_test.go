package tests

import (
	"fmt"
	"slices"
	"strings"
	"testing"

	"loop.example/g01136/impl"
)

// Promise 2: ordinary beads and abaci against the border words and the diagrams of the model.

// beadsByBorder returns n beads of a partition: they stand at the steps up of its border, with steps up in front for parts that are missing.
func beadsByBorder(p []int, n int) []int {
	var beads []int
	for at, letter := range strings.Repeat("U", n-len(p)) + border(p) {
		if letter == 'U' {
			beads = append(beads, at)
		}
	}
	return beads
}

// partsBelow counts the gaps below each bead.
func partsBelow(beads []int) []int {
	var p []int
	for _, bead := range slices.Backward(beads) {
		gaps := 0
		for at := range bead {
			if !slices.Contains(beads, at) {
				gaps++
			}
		}
		if gaps > 0 {
			p = append(p, gaps)
		}
	}
	return p
}

// fewCells reports whether parts are those of a partition.
func fewCells(p []int) bool {
	sum := 0
	for _, part := range p {
		sum += part
	}
	return sum <= impl.MaxCells
}

// moreBeads returns the least number of beads of a partition, and some greater ones up to the greatest.
func moreBeads(p []int) []int {
	var numbers []int
	for _, n := range []int{len(p), len(p) + 1, len(p) + 2, len(p) + 5, impl.MaxBeads - 1, impl.MaxBeads} {
		if n <= impl.MaxBeads && !slices.Contains(numbers, n) {
			numbers = append(numbers, n)
		}
	}
	return numbers
}

// eachAbacus calls a check with abaci of all samples.
func eachAbacus(check func(p []int, a impl.Abacus)) {
	for _, p := range samples() {
		for _, n := range moreBeads(p) {
			for runners := 2; runners <= impl.MaxRunners; runners++ {
				check(p, impl.Abacus{Runners: runners, Beads: beadsByBorder(p, n)})
			}
		}
	}
}

// movedBead returns beads, one of which is put elsewhere.
func movedBead(beads []int, from, to int) []int {
	var moved []int
	for _, bead := range beads {
		if bead == from {
			bead = to
		}
		moved = append(moved, bead)
	}
	slices.Sort(moved)
	return moved
}

func wantAbacus(t *testing.T, what string, from any, got impl.Abacus, runners int, beads []int, ok bool) {
	t.Helper()
	if !ok || got.Runners != runners || !slices.Equal(got.Beads, beads) {
		t.Errorf("%s of %v: %v %v, want %v %v true", what, from, got, ok, runners, beads)
	}
}

func wantNoAbacus(t *testing.T, what string, from any, got impl.Abacus, ok bool) {
	t.Helper()
	if ok || got.Runners != 0 || len(got.Beads) != 0 {
		t.Errorf("%s of %v: %v %v, want none false", what, from, got, ok)
	}
}

func TestAbacusExample(t *testing.T) {
	p := []int{4, 2, 1}
	beads, ok := impl.BeadsOf(p, 3)
	wantList(t, "beads", p, beads, []int{1, 3, 6}, ok)
	shifted, ok := impl.ShiftBeads(beads, 2)
	wantList(t, "shifted", beads, shifted, []int{0, 1, 3, 5, 8}, ok)
	least, ok := impl.LeastBeads(shifted)
	wantList(t, "least", shifted, least, beads, ok)
	a, ok := impl.AbacusOf(p, 3, 3)
	wantAbacus(t, "abacus", p, a, 3, []int{1, 3, 6}, ok)
	rows, ok := impl.RunnersOf(a)
	wantRows(t, "runners", a, rows, [][]int{{1, 2}, {0}, {}}, ok)
	counts, ok := impl.CountsOf(a)
	wantList(t, "counts", a, counts, []int{2, 1, 0}, ok)
	movable, ok := impl.MovableBeads(a)
	wantList(t, "movable", a, movable, []int{3}, ok)
	moved, leg, ok := impl.MoveBead(a, 6)
	wantNoAbacus(t, "move 6", a, moved, ok)
	wantNoValue(t, "leg 6", a, leg, ok)
	moved, leg, ok = impl.MoveBead(a, 3)
	wantAbacus(t, "move 3", a, moved, 3, []int{0, 1, 6}, ok)
	wantValue(t, "leg 3", a, leg, 1, ok)
	lifted, ok := impl.LiftBead(moved, 0)
	wantAbacus(t, "lift 0", moved, lifted, 3, []int{1, 3, 6}, ok)
	down, moves, ok := impl.PushDown(a)
	wantAbacus(t, "down", a, down, 3, []int{0, 1, 3}, ok)
	wantValue(t, "moves", a, moves, 2, ok)
	maya, ok := impl.MayaOf(p)
	wantList(t, "maya", p, maya, []int{3, 0, -1, -3}, ok)
	text, ok := impl.AbacusText(a)
	wantValue(t, "text", a, text, "3:1,3,6", ok)
}

func TestAbacusBeads(t *testing.T) {
	for _, p := range samples() {
		for n := range impl.MaxBeads + 1 {
			got, ok := impl.BeadsOf(p, n)
			what := fmt.Sprint(n, " beads")
			if n < len(p) {
				wantNoList(t, what, p, got, ok)
				continue
			}
			beads := beadsByBorder(p, n)
			wantList(t, what, p, got, beads, ok)
			if !impl.AreBeads(beads) {
				t.Errorf("%v are beads", beads)
			}
			q, ok := impl.FromBeads(beads)
			wantList(t, "partition with beads", beads, q, p, ok)
			least, ok := impl.LeastBeads(beads)
			wantList(t, "least beads", beads, least, beadsByBorder(p, len(p)), ok)
		}
	}
}

func TestAbacusShifts(t *testing.T) {
	for _, p := range samples() {
		for _, n := range moreBeads(p) {
			beads := beadsByBorder(p, n)
			for by := range impl.MaxBeads + 1 {
				got, ok := impl.ShiftBeads(beads, by)
				what := fmt.Sprint("shifted by ", by)
				if n+by > impl.MaxBeads {
					wantNoList(t, what, beads, got, ok)
					continue
				}
				wantList(t, what, beads, got, beadsByBorder(p, n+by), ok)
			}
		}
	}
}

// Each set of small numbers stands for the parts below it; if these are too many cells, it is none of beads.
func TestAbacusAllSmallSets(t *testing.T) {
	for set := range 1 << 13 {
		var beads []int
		for at := range 13 {
			if set>>at&1 == 1 {
				beads = append(beads, at)
			}
		}
		p := partsBelow(beads)
		q, ok := impl.FromBeads(beads)
		if impl.AreBeads(beads) != fewCells(p) {
			t.Errorf("%v are beads: %v", beads, !fewCells(p))
		}
		if !fewCells(p) {
			wantNoList(t, "partition with beads", beads, q, ok)
			continue
		}
		wantList(t, "partition with beads", beads, q, p, ok)
		again, ok := impl.BeadsOf(q, len(beads))
		wantList(t, "beads again", q, again, beads, ok)
	}
}

// listsUpTo returns all lists of at most so many of some numbers.
func listsUpTo(size int, numbers ...int) [][]int {
	lists := [][]int{{}}
	for k := 0; k < len(lists); k++ {
		if len(lists[k]) == size {
			break
		}
		for _, number := range numbers {
			lists = append(lists, append(slices.Clone(lists[k]), number))
		}
	}
	return lists
}

// rises reports whether numbers are strictly increasing and none is less than 0.
func rises(numbers []int) bool {
	last := -1
	for _, number := range numbers {
		if number <= last {
			return false
		}
		last = number
	}
	return true
}

func TestAbacusAllShortLists(t *testing.T) {
	for _, beads := range listsUpTo(4, -1, 0, 1, 2, 3, 11) {
		p, ok := impl.FromBeads(beads)
		least, ok2 := impl.LeastBeads(beads)
		shifted, ok3 := impl.ShiftBeads(beads, 1)
		if impl.AreBeads(beads) != rises(beads) {
			t.Errorf("%v are beads: %v", beads, rises(beads))
		}
		if !rises(beads) {
			wantNoList(t, "partition with beads", beads, p, ok)
			wantNoList(t, "least beads", beads, least, ok2)
			wantNoList(t, "shifted", beads, shifted, ok3)
			continue
		}
		wantList(t, "partition with beads", beads, p, partsBelow(beads), ok)
		wantList(t, "least beads", beads, least, beadsByBorder(p, len(p)), ok2)
		wantList(t, "shifted", beads, shifted, beadsByBorder(p, len(beads)+1), ok3)
	}
}

func TestAbacusRunners(t *testing.T) {
	eachAbacus(func(p []int, a impl.Abacus) {
		got, ok := impl.AbacusOf(p, a.Runners, len(a.Beads))
		wantAbacus(t, "abacus", p, got, a.Runners, a.Beads, ok)
		if !impl.IsAbacus(a) {
			t.Errorf("%v is an abacus", a)
		}
		want, counts := make([][]int, a.Runners), make([]int, a.Runners)
		for row := 0; row*a.Runners <= 70; row++ {
			for i := range a.Runners {
				if slices.Contains(a.Beads, row*a.Runners+i) {
					want[i] = append(want[i], row)
					counts[i]++
				}
			}
		}
		rows, ok := impl.RunnersOf(a)
		wantRows(t, "runners", a, rows, want, ok)
		got, ok = impl.FromRunners(want)
		wantAbacus(t, "abacus with runners", want, got, a.Runners, a.Beads, ok)
		got2, ok := impl.CountsOf(a)
		wantList(t, "counts", a, got2, counts, ok)
	})
	for _, p := range [][]int{{4, 2, 1}, ones(30), {15, 15}} {
		for n := range len(p) {
			a, ok := impl.AbacusOf(p, 3, n)
			wantNoAbacus(t, fmt.Sprint("abacus with too few beads: ", n), p, a, ok)
		}
	}
}

func TestAbacusAllShortRunners(t *testing.T) {
	lists := listsUpTo(3, -1, 0, 1, 2, 9)
	for _, first := range lists {
		for _, second := range lists {
			rows := [][]int{first, second}
			var beads []int
			for i, list := range rows {
				for _, row := range list {
					beads = append(beads, 2*row+i)
				}
			}
			slices.Sort(beads)
			a, ok := impl.FromRunners(rows)
			if !rises(first) || !rises(second) || !fewCells(partsBelow(beads)) {
				wantNoAbacus(t, "abacus with runners", rows, a, ok)
				continue
			}
			wantAbacus(t, "abacus with runners", rows, a, 2, beads, ok)
		}
	}
}

// A bead that is moved down is a rim hook taken away, and each rim hook of so many cells is one of them.
func TestAbacusMoves(t *testing.T) {
	eachAbacus(func(p []int, a impl.Abacus) {
		cells := draw(p)
		var rims, moves []string
		for at := range cells {
			if cells.hook(at) == a.Runners {
				left, _ := read(cells.without(cells.rim(at)))
				rims = append(rims, fmt.Sprint(left, cells.leg(at)))
			}
		}
		var movable []int
		for from := -1; from <= 72; from++ {
			moved, leg, ok := impl.MoveBead(a, from)
			what := fmt.Sprint("move ", from)
			to := from - a.Runners
			if !slices.Contains(a.Beads, from) || to < 0 || slices.Contains(a.Beads, to) {
				wantNoAbacus(t, what, a, moved, ok)
				wantNoValue(t, what+" leg", a, leg, ok)
				continue
			}
			wantAbacus(t, what, a, moved, a.Runners, movedBead(a.Beads, from, to), ok)
			left := partsBelow(moved.Beads)
			movable = append(movable, from)
			moves = append(moves, fmt.Sprint(left, leg))
		}
		slices.Sort(rims)
		slices.Sort(moves)
		if !slices.Equal(rims, moves) {
			t.Errorf("moves of %v: %v, want %v", a, moves, rims)
		}
		got, ok := impl.MovableBeads(a)
		wantList(t, "movable", a, got, movable, ok)
	})
}

func TestAbacusLifts(t *testing.T) {
	eachAbacus(func(p []int, a impl.Abacus) {
		full := len(draw(p))+a.Runners > impl.MaxCells
		for from := -1; from <= 72; from++ {
			lifted, ok := impl.LiftBead(a, from)
			what := fmt.Sprint("lift ", from)
			to := from + a.Runners
			if full || !slices.Contains(a.Beads, from) || slices.Contains(a.Beads, to) {
				wantNoAbacus(t, what, a, lifted, ok)
				continue
			}
			wantAbacus(t, what, a, lifted, a.Runners, movedBead(a.Beads, from, to), ok)
			moved, _, ok := impl.MoveBead(lifted, to)
			wantAbacus(t, "move again", lifted, moved, a.Runners, a.Beads, ok)
		}
	})
}

// coreByRims takes rim hooks away until none has so many cells, and returns how many that were.
func coreByRims(p []int, size int) ([]int, int) {
	for r, part := range p {
		for c := range part {
			cells := draw(p)
			if cells.hook(cell{r, c}) == size {
				left, _ := read(cells.without(cells.rim(cell{r, c})))
				core, rims := coreByRims(left, size)
				return core, rims + 1
			}
		}
	}
	return p, 0
}

func TestAbacusPushedDown(t *testing.T) {
	for _, p := range samples() {
		for runners := 2; runners <= impl.MaxRunners; runners++ {
			core, rims := coreByRims(p, runners)
			for _, n := range moreBeads(p) {
				a := impl.Abacus{Runners: runners, Beads: beadsByBorder(p, n)}
				down, moves, ok := impl.PushDown(a)
				wantAbacus(t, "down", a, down, runners, beadsByBorder(core, n), ok)
				wantValue(t, "moves", a, moves, rims, ok)
				movable, ok := impl.MovableBeads(down)
				wantList(t, "movable when down", down, movable, nil, ok)
				again, moves, ok := impl.PushDown(down)
				wantAbacus(t, "down again", down, again, runners, down.Beads, ok)
				wantValue(t, "moves again", down, moves, 0, ok)
			}
		}
	}
}

// mayaByHooks returns the arms of the cells r, r, and their legs below 0.
func mayaByHooks(p []int) []int {
	cells := draw(p)
	var arms, legs []int
	for r := 0; cells[cell{r, r}]; r++ {
		arms = append(arms, cells.arm(cell{r, r}))
		legs = append([]int{-1 - cells.leg(cell{r, r})}, legs...)
	}
	return append(arms, legs...)
}

func TestAbacusMaya(t *testing.T) {
	for n := 0; n <= impl.MaxCells; n++ {
		all := partitions(n)
		for k := 0; k < len(all); k += 1 + n*len(all)/3000 {
			maya, ok := impl.MayaOf(all[k])
			wantList(t, "maya", all[k], maya, mayaByHooks(all[k]), ok)
			p, ok := impl.FromMaya(maya)
			wantList(t, "partition with maya", maya, p, all[k], ok)
		}
	}
}

// Each set of numbers near 0 is tried; all of the same number of both kinds with few cells are those of a partition.
func TestAbacusAllSmallMaya(t *testing.T) {
	for set := range 1 << 14 {
		var m []int
		kinds, cells := 0, 0
		for number := 6; number >= -7; number-- {
			if set>>(number+7)&1 == 0 {
				continue
			}
			m = append(m, number)
			if number >= 0 {
				kinds++
				cells += number
			} else {
				kinds--
				cells -= number
			}
		}
		p, ok := impl.FromMaya(m)
		if kinds != 0 || cells > impl.MaxCells {
			wantNoList(t, "partition with maya", m, p, ok)
			continue
		}
		wantValue(t, "cells with maya", m, len(draw(p)), cells, ok)
		again, ok := impl.MayaOf(p)
		wantList(t, "maya again", p, again, m, ok)
	}
}

func TestAbacusAllShortMaya(t *testing.T) {
	for _, m := range listsUpTo(4, -3, -2, -1, 0, 1, 2) {
		p, ok := impl.FromMaya(m)
		falls := slices.IsSortedFunc(m, func(a, b int) int { return b - a }) && len(slices.Compact(slices.Clone(m))) == len(m)
		low := 0
		for _, number := range m {
			if number < 0 {
				low++
			}
		}
		if !falls || 2*low != len(m) {
			wantNoList(t, "partition with maya", m, p, ok)
			continue
		}
		if !ok || !slices.Equal(mayaByHooks(p), m) {
			t.Errorf("partition with maya of %v: %v %v", m, p, ok)
		}
	}
}

func TestAbacusTexts(t *testing.T) {
	eachAbacus(func(p []int, a impl.Abacus) {
		beads := strings.ReplaceAll(strings.Trim(fmt.Sprint(a.Beads), "[]"), " ", ",")
		if beads == "" {
			beads = "-"
		}
		want := fmt.Sprint(a.Runners, ":", beads)
		text, ok := impl.AbacusText(a)
		wantValue(t, "text", a, text, want, ok)
		again, ok := impl.ParseAbacus(want)
		wantAbacus(t, "abacus with text", want, again, a.Runners, a.Beads, ok)
	})
}
