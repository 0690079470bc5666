package tests

import (
	"fmt"
	"math"
	"slices"
	"strings"
	"testing"

	"loop.example/g01136/impl"
)

// Promise 11 for the console.

func isDesk(runners int) call {
	return call{fmt.Sprint("IsDesk with runners ", runners), func(l [][]int) []any { return []any{impl.IsDesk(desk(runners, l[0]...))} }}
}

func deskLine(runners int, line string) call {
	return call{fmt.Sprintf("DeskLine with runners %d, %.40q", runners, line), func(l [][]int) []any {
		d, reply, ok := impl.DeskLine(impl.Desk{Parts: l[0], Runners: runners}, line)
		return []any{d.Parts, d.Runners, reply, ok}
	}}
}

func scriptCalls(s string) []call {
	name := func(function string) string { return fmt.Sprintf("%s %.40q", function, s) }
	return []call{
		{name("RunScript"), func([][]int) []any { return results(impl.RunScript(s)) }},
		{name("FailedLines"), func([][]int) []any { return results(impl.FailedLines(s)) }},
		{name("DeskAfter"), func([][]int) []any {
			d, ok := impl.DeskAfter(s)
			return []any{d.Parts, d.Runners, ok}
		}},
	}
}

// deskLists returns lists of all kinds: partitions on which each row of the table does something, and others.
func deskLists() [][]int {
	lists := append(oddLists(), []int{5, 2, 1}, []int{9, 8, 7, 6}, []int{20}, []int{21})
	return slices.DeleteFunc(lists, func(list []int) bool { return len(list) > 1000 })
}

// oddLines returns lines of all kinds, with numbers that are extreme ones, and with texts that are none.
func oddLines() []string {
	lines := append(fullLines(), "", " ", "fly", "take 0", "take 30", "take 31", "take x", "same 0", "same 31", "show\n", "\n", "\x00", "\xff\xfe", "take \xff", "drop \xff")
	for _, number := range extremes() {
		for _, order := range numberOrders() {
			lines = append(lines, numberLine(order, fmt.Sprint(number)))
		}
	}
	return lines
}

func TestTotalDesks(t *testing.T) {
	for _, list := range append(oddLists(), ones(100000), upTo(100000)) {
		for _, runners := range oddSizes() {
			tryCall(t, isDesk(runners), list)
			for _, line := range []string{"show", "turn", "take 3", "runners 3", "fly"} {
				tryCall(t, deskLine(runners, line), list)
			}
		}
	}
}

func TestTotalDeskLines(t *testing.T) {
	for _, line := range oddLines() {
		for _, list := range deskLists() {
			for _, runners := range []int{2, 3, 5, 6, 7} {
				tryCall(t, deskLine(runners, line), list)
			}
		}
	}
}

// longTexts returns texts about as long as lines and scripts can be, and much longer ones.
func longTexts() []string {
	var texts []string
	for _, piece := range []string{"\n", " ", "x", "0", "1+", "show\n", "show ", "take 1\n", "drop 0\n", "at 0 0\n", "\x00", "\xff", "\xff\n", "\u0663"} {
		text := strings.Repeat(piece, 1<<20)
		for _, size := range []int{49, 50, 51, 249, 250, 251, 255, 2999, 3000, 3001, 1 << 20} {
			texts = append(texts, text[:size], text[:size]+"\n", "take "+text[:size], "drop "+text[:size])
		}
	}
	return texts
}

func TestTotalDeskTexts(t *testing.T) {
	for _, text := range longTexts() {
		for _, do := range scriptCalls(text) {
			tryCall(t, do)
		}
		for _, list := range [][]int{nil, {4, 2, 1}, {30}, {31}, {1, 2}} {
			tryCall(t, deskLine(3, text), list)
		}
	}
}

func TestTotalScripts(t *testing.T) {
	texts := []string{"", "\n", "show", "\x00\n", "\xff\xfe\n", "show\n\xff\n"}
	for _, line := range oddLines() {
		texts = append(texts, line, line+"\n", "show\n"+line+"\n", line+"\nshow\n", strings.Repeat(line+"\n", 50), strings.Repeat(line+"\n", 51))
	}
	for _, text := range texts {
		for _, do := range scriptCalls(text) {
			tryCall(t, do)
		}
	}
}

// Results of earlier calls may be written to, also those that no line has changed.
func TestTotalConsoleResultsApart(t *testing.T) {
	for range 2 {
		first := impl.FirstDesk()
		if !sameDesk(first, desk(3, 4, 2, 1)) {
			t.Error("first desk", first)
		}
		scribble(first.Parts, 555)
		for _, script := range []string{"", "show\n", "fly\n", "runners 3\n", "drop 7\n", "turn\nturn\n", "take 4+2+1\n"} {
			after, ok := impl.DeskAfter(script)
			if !ok || !sameDesk(after, desk(3, 4, 2, 1)) {
				t.Errorf("desk after %q: %v %v", script, after, ok)
			}
			scribble(after.Parts, 555)
		}
		replies, ok := impl.RunScript("show\nfly\n")
		if !ok || !slices.Equal(replies, []string{"4+2+1", "what"}) {
			t.Error("replies", replies, ok)
		}
		for i := range whole(replies) {
			whole(replies)[i] = "scribble"
		}
		numbers, ok := impl.FailedLines("fly\nshow\nfly\n")
		wantList(t, "failed lines", "fly, show, fly", numbers, []int{1, 3}, ok)
		scribble(numbers, 555)
	}
}

// A desk that a line leaves as it is has the same parts, in memory of its own.
func TestTotalDeskLeftAsItIs(t *testing.T) {
	for _, line := range []string{"", "fly", "show", "border", "weight", "sign", "parts", "runs", "beads 4", "chains", "same 7", "same 0", "runners 4", "runners 9", "drop 9", "bar 9", "at 0 9", "beads 41", "take 1+2", "drop x"} {
		p := guarded([]int{4, 2, 1})
		behind, _, ok := impl.DeskLine(impl.Desk{Parts: p, Runners: 3}, line)
		wantList(t, "parts behind "+line, p, behind.Parts, []int{4, 2, 1}, ok)
		scribble(behind.Parts, 555)
		if !slices.Equal(whole(p), []int{4, 2, 1, guard, guard, guard, guard}) {
			t.Errorf("behind %q: an argument is changed or shared: %v", line, whole(p))
		}
	}
	for _, p := range [][]int{nil, {}, guarded(nil)} {
		behind, reply, ok := impl.DeskLine(impl.Desk{Parts: p, Runners: math.MaxInt}, "show")
		if ok || reply != "" || len(behind.Parts) > 0 || behind.Runners != 0 {
			t.Error("no desk", behind, reply, ok)
		}
		behind, reply, ok = impl.DeskLine(impl.Desk{Parts: p, Runners: 2}, "show")
		if !ok || reply != "0" || len(behind.Parts) > 0 || behind.Runners != 2 {
			t.Error("a desk with no cells", behind, reply, ok)
		}
		scribble(behind.Parts, 555)
		if len(whole(p)) > 0 && !slices.Equal(whole(p), []int{guard, guard, guard, guard}) {
			t.Error("an argument with no cells is changed or shared", whole(p))
		}
	}
}
