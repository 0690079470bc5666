package tests

import (
	"fmt"
	"math"
	"slices"
	"strings"
	"testing"

	"loop.example/g01136/impl"
)

// Promise 11 for beads and abaci.

// parts packs an abacus by its fields, so that its beads are seen as a list of the result.
func parts(a impl.Abacus, others ...any) []any {
	return append([]any{a.Runners, a.Beads}, others...)
}

func beadCalls() []call {
	return []call{
		{"AreBeads", func(l [][]int) []any { return []any{impl.AreBeads(l[0])} }},
		{"FromBeads", func(l [][]int) []any { return results(impl.FromBeads(l[0])) }},
		{"LeastBeads", func(l [][]int) []any { return results(impl.LeastBeads(l[0])) }},
		{"MayaOf", func(l [][]int) []any { return results(impl.MayaOf(l[0])) }},
		{"FromMaya", func(l [][]int) []any { return results(impl.FromMaya(l[0])) }},
	}
}

func beadNumberCalls(n int) []call {
	list := []call{
		{fmt.Sprint("BeadsOf ", n), func(l [][]int) []any { return results(impl.BeadsOf(l[0], n)) }},
		{fmt.Sprint("ShiftBeads ", n), func(l [][]int) []any { return results(impl.ShiftBeads(l[0], n)) }},
	}
	for _, runners := range []int{math.MinInt, -2, 0, 1, 2, 3, 6, 7, math.MaxInt} {
		list = append(list, call{fmt.Sprint("AbacusOf ", runners, n), func(l [][]int) []any {
			a, ok := impl.AbacusOf(l[0], runners, n)
			return parts(a, ok)
		}})
	}
	return list
}

func abacusCalls(runners int) []call {
	on := func(l [][]int) impl.Abacus { return impl.Abacus{Runners: runners, Beads: l[0]} }
	name := func(function string) string { return fmt.Sprint(function, " with runners ", runners) }
	return []call{
		{name("IsAbacus"), func(l [][]int) []any { return []any{impl.IsAbacus(on(l))} }},
		{name("RunnersOf"), func(l [][]int) []any { return results(impl.RunnersOf(on(l))) }},
		{name("CountsOf"), func(l [][]int) []any { return results(impl.CountsOf(on(l))) }},
		{name("MovableBeads"), func(l [][]int) []any { return results(impl.MovableBeads(on(l))) }},
		{name("AbacusText"), func(l [][]int) []any { return results(impl.AbacusText(on(l))) }},
		{name("PushDown"), func(l [][]int) []any {
			a, moves, ok := impl.PushDown(on(l))
			return parts(a, moves, ok)
		}},
	}
}

func abacusMoveCalls(runners, from int) []call {
	on := func(l [][]int) impl.Abacus { return impl.Abacus{Runners: runners, Beads: l[0]} }
	return []call{
		{fmt.Sprint("MoveBead with runners ", runners, from), func(l [][]int) []any {
			a, leg, ok := impl.MoveBead(on(l), from)
			return parts(a, leg, ok)
		}},
		{fmt.Sprint("LiftBead with runners ", runners, from), func(l [][]int) []any {
			a, ok := impl.LiftBead(on(l), from)
			return parts(a, ok)
		}},
	}
}

func fromRunners() call {
	return call{"FromRunners", func(l [][]int) []any {
		a, ok := impl.FromRunners(l)
		return parts(a, ok)
	}}
}

func parseAbacus(s string) call {
	return call{fmt.Sprintf("ParseAbacus %.40q", s), func([][]int) []any {
		a, ok := impl.ParseAbacus(s)
		return parts(a, ok)
	}}
}

// edgeNumbers are numbers beside the limits of the chapter, and extreme ones.
func edgeNumbers() []int {
	return append(extremes(), -2, -6, 4, 5, 6, 8, 31, 35, 36, 39, 40, 41, 69, 70, 71, 72, 215, 216, 217, 1000, 1001, math.MinInt+6, math.MaxInt-6)
}

func edgeRunners() []int {
	return []int{math.MinInt, -6, -1, 0, 1, 2, 3, 4, 5, 6, 7, 1 << 32, math.MaxInt}
}

// oddBeads returns lists of all kinds, beads and others.
func oddBeads() [][]int {
	lists := append(notBeads(), nil, []int{0}, []int{1, 3, 6}, []int{0, 1, 3, 5, 8}, []int{30}, upTo(40), append(upTo(39), 69), slices.Concat(upTo(10), upTo(41)[11:]), []int{3, 0, -1, -3}, []int{0, -1}, []int{29, -1}, []int{0, -30}, fallingFrom(29, 60))
	for _, number := range extremes() {
		lists = append(lists, []int{number}, []int{number, number}, []int{0, number}, []int{number, 3}, []int{number, -1})
	}
	return lists
}

func TestTotalBeadLists(t *testing.T) {
	for _, list := range append(oddBeads(), oddLists()...) {
		for _, do := range beadCalls() {
			tryCall(t, do, list)
		}
	}
}

func TestTotalBeadNumbers(t *testing.T) {
	for _, list := range append(oddBeads(), oddLists()...) {
		if len(list) > 1000 {
			continue // each call copies the list
		}
		for _, n := range edgeNumbers() {
			for _, do := range beadNumberCalls(n) {
				tryCall(t, do, list)
			}
		}
	}
}

func TestTotalAbaci(t *testing.T) {
	for _, list := range oddBeads() {
		for _, runners := range edgeRunners() {
			for _, do := range abacusCalls(runners) {
				tryCall(t, do, list)
			}
		}
	}
}

func TestTotalAbacusMoves(t *testing.T) {
	for _, list := range oddBeads() {
		if len(list) > 1000 {
			continue // each call copies the list
		}
		for _, runners := range edgeRunners() {
			for _, from := range append(edgeNumbers(), list...) {
				for _, do := range abacusMoveCalls(runners, from) {
					tryCall(t, do, list)
				}
			}
		}
	}
}

func TestTotalRunners(t *testing.T) {
	tryCall(t, fromRunners())
	tryCall(t, fromRunners(), slices.Repeat([][]int{{0}}, 100000)...)
	for _, list := range append(oddBeads(), notRows()...) {
		for number := 1; number <= 7; number++ {
			rows := make([][]int, number)
			tryCall(t, fromRunners(), rows...)
			rows[number-1] = list
			tryCall(t, fromRunners(), rows...)
			tryCall(t, fromRunners(), slices.Repeat([][]int{list}, number)...)
		}
	}
}

func TestTotalAbacusTexts(t *testing.T) {
	texts := []string{"", ":", "3:", "3:-", "6:-", "7:-", "3:1,3,6", "3:6,3,1", "3:30", "3:31", "\x00", "\xff\xfe", "3:\xff", "3:9223372036854775808", "-9223372036854775808:-"}
	for _, piece := range []string{"0", "2", ":", ",", "-", "1,", "2:", "\x00", "\xff"} {
		for _, size := range []int{119, 120, 121, 122, 1 << 20} {
			texts = append(texts, strings.Repeat(piece, size), "2:"+strings.Repeat(piece, size), "2:"+strings.Repeat(piece, size-2))
		}
	}
	for _, text := range texts {
		tryCall(t, parseAbacus(text))
	}
}

// One list may be the rows of several runners, and stays as it is.
func TestTotalOneListForAllRunners(t *testing.T) {
	row := guarded([]int{0, 2})
	rows := [][]int{row, row, row}
	a, ok := impl.FromRunners(rows)
	wantAbacus(t, "abacus with runners", rows, a, 3, []int{0, 1, 2, 6, 7, 8}, ok)
	scribble(a.Beads, 555)
	if !slices.Equal(whole(row), []int{0, 2, guard, guard, guard, guard}) {
		t.Error("an argument is changed", whole(row))
	}
}
