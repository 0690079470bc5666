package tests

import (
	"fmt"
	"slices"
	"strings"
	"testing"

	"loop.example/g01136/impl"
)

// Promise 10: every row of the table against the call that it names, and scripts line by line.

func TestConsoleExample(t *testing.T) {
	script := "weight\nparts\ndrop 0\nsign\ndown\nfly\n"
	wantScript(t, script, []string{"2", "1+1 0 0", "4", "+", "1", "what"}, desk(3, 1), []int{6})
	d := desk(3, 4, 2, 1)
	wantReply(t, d, "weight", "2")
	wantReply(t, d, "parts", "1+1 0 0")
	wantLine(t, d, "drop 0", desk(3, 4), "4")
	wantReply(t, desk(3, 4), "sign", "+")
	wantLine(t, desk(3, 4), "down", desk(3, 1), "1")
	wantReply(t, desk(3, 1), "fly", "what")
}

func TestConsoleFirstDesk(t *testing.T) {
	d := impl.FirstDesk()
	if !sameDesk(d, desk(3, 4, 2, 1)) || !impl.IsDesk(d) {
		t.Error("first desk", d)
	}
	after, ok := impl.DeskAfter("")
	if !ok || !sameDesk(after, d) {
		t.Error("desk after the empty script", after, ok)
	}
}

func TestConsoleEffects(t *testing.T) {
	for _, of := range []struct {
		before impl.Desk
		line   string
		behind impl.Desk
		reply  string
	}{
		{desk(3, 4, 2, 1), "take 3+1", desk(3, 3, 1), "3+1"},
		{desk(3, 4, 2, 1), "take 0", desk(3), "0"},
		{desk(2), "take 30", desk(2, 30), "30"},
		{desk(3, 4, 2, 1), "runners 2", desk(2, 4, 2, 1), "ok"},
		{desk(3), "runners 6", desk(6), "ok"},
		{desk(3, 4, 2, 1), "turn", desk(3, 3, 2, 1, 1), "3+2+1+1"},
		{desk(4, 30), "turn", desk(4, ones(30)...), textOf(ones(30))},
		{desk(3, 4, 2, 1), "drop 0", desk(3, 4), "4"},
		{desk(2, 3, 2), "drop 0", desk(2, 3), "3"},
		{desk(2, 4, 2), "drop 0", desk(2, 2, 2), "2+2"},
		{desk(2, 4, 2), "drop 1", desk(2, 4), "4"},
		{desk(3, 4, 2, 1), "down", desk(3, 1), "1"},
		{desk(2, 3, 3), "down", desk(2), "0"},
		{desk(4, 4, 2, 1), "down", desk(4, 1, 1, 1), "1+1+1"},
		{desk(3, 5, 2, 1), "bar 0", desk(3, 5), "5"},
		{desk(3, 7, 5, 2, 1), "bar 1", desk(3, 7, 5), "7+5"},
		{desk(5, 4, 2, 1), "bar 0", desk(5, 2), "2"},
		{desk(3, 2, 1), "double", desk(3, 3, 3), "3+3"},
		{desk(2, 4, 2, 1), "double", desk(2, 5, 4, 4, 1), "5+4+4+1"},
		{desk(3), "double", desk(3), "0"},
		{desk(3, 4, 2, 1), "at 3 1", desk(3, 2, 1), "2+1"},
		{desk(3, 4, 2, 1), "at 7 0", desk(3, 7), "7"},
		{desk(3, 4, 2, 1), "at 0 0", desk(3), "0"},
		{desk(6), "at 30 5603", desk(6, ones(30)...), textOf(ones(30))},
	} {
		wantLine(t, of.before, of.line, of.behind, of.reply)
	}
}

func TestConsoleReplies(t *testing.T) {
	for _, of := range []struct {
		d           impl.Desk
		line, reply string
	}{
		{desk(3, 4, 2, 1), "show", "4+2+1"}, {desk(3), "show", "0"}, {desk(2, 30), "show", "30"},
		{desk(3, 4, 2, 1), "border", "RURURRU"}, {desk(3), "border", "-"}, {desk(3, 2), "border", "RRU"}, {desk(3, 1, 1), "border", "RUU"},
		{desk(3, 4, 2, 1), "weight", "2"}, {desk(2, 4, 2, 1), "weight", "3"}, {desk(6, 4, 2, 1), "weight", "1"}, {desk(3), "weight", "0"}, {desk(2, 30), "weight", "15"},
		{desk(3, 4, 2, 1), "sign", "-"}, {desk(2, 1, 1), "sign", "-"}, {desk(2, 2), "sign", "+"}, {desk(2, 3, 2), "sign", "+"}, {desk(2), "sign", "+"}, {desk(3, 1, 1, 1), "sign", "+"}, {desk(3, 2, 1), "sign", "-"},
		{desk(3, 4, 2, 1), "parts", "1+1 0 0"}, {desk(3), "parts", "0 0 0"}, {desk(2), "parts", "0 0"}, {desk(6), "parts", "0 0 0 0 0 0"}, {desk(2, 2), "parts", "0 1"}, {desk(2, 1, 1), "parts", "1 0"},
		{desk(3, 4, 2, 1), "runs", "1"}, {desk(2, 2, 2), "runs", "2"}, {desk(3), "runs", "1"},
		{desk(3, 4, 2, 1), "beads 3", "3:1,3,6"}, {desk(2, 4, 2, 1), "beads 4", "2:0,2,4,7"}, {desk(3), "beads 0", "3:-"}, {desk(3), "beads 1", "3:0"},
		{desk(3, 4, 2, 1), "chains", "35"}, {desk(3, 2, 1), "chains", "2"}, {desk(2), "chains", "1"}, {desk(2, 20), "chains", "1"},
		{desk(3, 4, 2, 1), "same 4+2+1", "yes"}, {desk(3, 4, 2, 1), "same 7", "yes"}, {desk(3, 4, 2, 1), "same 4", "no"}, {desk(3, 4, 2, 1), "same 5+2", "yes"}, {desk(3, 4, 2, 1), "same 6+1", "no"}, {desk(2), "same 0", "yes"}, {desk(2), "same 1", "no"},
	} {
		wantReply(t, of.d, of.line, of.reply)
	}
}

// plainLines are the rows without other words.
func plainLines() []string {
	return []string{"turn", "down", "double", "show", "border", "weight", "sign", "parts", "runs", "chains"}
}

// numberedLines are lines of all rows with one number, up to those that fail on each desk.
func numberedLines() []string {
	var lines []string
	for n := range 10 {
		lines = append(lines, fmt.Sprint("runners ", n), fmt.Sprint("bar ", n), fmt.Sprint("drop ", n))
	}
	for n := range 43 {
		lines = append(lines, fmt.Sprint("beads ", n))
	}
	return lines
}

// eachDesk goes over the samples with all numbers of runners.
func eachDesk(check func(d impl.Desk)) {
	for _, p := range samples() {
		for runners := 2; runners <= impl.MaxRunners; runners++ {
			check(desk(runners, p...))
		}
	}
}

func TestConsoleRows(t *testing.T) {
	lines := slices.Concat(plainLines(), numberedLines())
	eachDesk(func(d impl.Desk) {
		for _, line := range lines {
			checkLine(t, d, line)
		}
	})
}

func TestConsoleTakesAllPartitions(t *testing.T) {
	for n := 0; n <= impl.MaxCells; n++ {
		all := partitions(n)
		for k, p := range all {
			d := desk(2+k%5, 4, 2, 1)
			behind := desk(d.Runners, p...)
			wantLine(t, d, "take "+textOf(p), behind, textOf(p))
			wantLine(t, d, fmt.Sprint("at ", n, " ", k), behind, textOf(p))
		}
		wantReply(t, desk(3, 4, 2, 1), fmt.Sprint("at ", n, " ", len(all)), "no")
	}
}

// Partitions of the same block are made by taking a rim away and adding one again.
func TestConsoleSame(t *testing.T) {
	yes, no := 0, 0
	eachDesk(func(d impl.Desk) {
		others := [][]int{{}, d.Parts, turned(d.Parts), {cellsIn(d.Parts) + 1}}
		if left, _, ok := impl.TakeRim(d.Parts, d.Runners, 0); ok {
			added, _ := impl.AddedRims(left, d.Runners)
			others = append(append(others, left), added...)
		}
		for _, q := range others {
			line := "same " + textOf(q)
			checkLine(t, d, line)
			if _, reply := lineByTable(d, line); reply == "yes" {
				yes++
			} else {
				no++
			}
		}
	})
	if yes < 1000 || no < 1000 {
		t.Error("too few of one kind", yes, no)
	}
}

// Small partitions are compared with all others of as many cells.
func TestConsoleSameOfFewCells(t *testing.T) {
	for n := range 8 {
		for _, p := range partitions(n) {
			for _, q := range partitions(n) {
				for runners := 2; runners <= impl.MaxRunners; runners++ {
					checkLine(t, desk(runners, p...), "same "+textOf(q))
				}
			}
		}
	}
}

// mixedLines are lines of all rows, most of which succeed, and some that are none.
func mixedLines() []string {
	lines := plainLines()
	for n := 2; n <= 6; n++ {
		lines = append(lines, fmt.Sprint("runners ", n))
	}
	for n := range 3 {
		lines = append(lines, fmt.Sprint("drop ", n), fmt.Sprint("bar ", n), fmt.Sprint("at ", 5+n, " ", 2*n), fmt.Sprint("at ", 12+n, " ", 30*n), fmt.Sprint("beads ", 4*n))
	}
	lines = append(lines, "take 5+2+1", "take 6+5+4+3+2+1", "take 4+4+4+4", "take 0", "take 9+7+5+3+1", "same 4+2+1", "same 5+2+1", "same 0")
	return append(lines, "", " ", "fly", "drop", "take 1+2", "runners 7", "show 1", "runners 03", "at 31 0")
}

// Lines are drawn by a fixed rule, so that each script is the same in each run of the test.
func TestConsoleMixedScripts(t *testing.T) {
	pool := mixedLines()
	state := 1
	for number := range 3000 {
		var lines []string
		for range 1 + number%impl.MaxLines {
			state = (state*1103515245 + 12345) % (1 << 31)
			lines = append(lines, pool[state>>8%len(pool)])
		}
		checkScript(t, lines)
	}
}

// A script does what its lines do, executed one by one.
func TestConsoleLineByLine(t *testing.T) {
	lines := []string{
		"show", "double", "show", "chains", "runners 2", "weight", "parts", "sign", "runs", "drop 1", "sign", "turn", "border", "beads 6", "same 5+4+3", "down", "show",
		"at 12 40", "runners 5", "parts", "take 7+4+3+1", "bar 0", "bar 0", "bar 0", "double", "runners 3", "down", "weight", "border", "take 0", "border", "beads 0",
	}
	d := impl.FirstDesk()
	var replies []string
	var failed []int
	for i, line := range lines {
		behind, reply, ok := impl.DeskLine(d, line)
		if !ok || !impl.IsDesk(behind) {
			t.Fatal("line", line, behind, reply, ok)
		}
		if reply == "no" || reply == "what" {
			failed = append(failed, i+1)
		}
		d = behind
		replies = append(replies, reply)
		wantScript(t, scriptOf(lines[:i+1]...), replies, d, failed)
	}
	checkScript(t, lines)
	if kinds := len(slices.Compact(slices.Sorted(slices.Values(replies)))); kinds < 15 {
		t.Error("few different replies", strings.Join(replies, ", "))
	}
}
