package tests

import (
	"fmt"
	"math"
	"slices"
	"strings"
	"testing"

	"loop.example/g01136/impl"
)

// Promise 2: the edges that the chapter names or that its limits make, and invalid arguments.

func TestAbacusLimits(t *testing.T) {
	if impl.MaxRunners != 6 || impl.MaxBeads != 40 {
		t.Error("limits", impl.MaxRunners, impl.MaxBeads)
	}
}

// upTo returns the numbers 0, 1, .., n - 1.
func upTo(n int) []int {
	var list []int
	for i := range n {
		list = append(list, i)
	}
	return list
}

func TestAbacusNoBeads(t *testing.T) {
	for _, none := range [][]int{nil, {}} {
		if !impl.AreBeads(none) {
			t.Error("no beads are beads")
		}
		beads, ok := impl.BeadsOf(none, 0)
		wantList(t, "beads", none, beads, nil, ok)
		p, ok := impl.FromBeads(none)
		wantList(t, "partition with beads", none, p, nil, ok)
		beads, ok = impl.ShiftBeads(none, 0)
		wantList(t, "shifted by 0", none, beads, nil, ok)
		beads, ok = impl.ShiftBeads(none, 3)
		wantList(t, "shifted by 3", none, beads, []int{0, 1, 2}, ok)
		beads, ok = impl.LeastBeads(none)
		wantList(t, "least", none, beads, nil, ok)
		maya, ok := impl.MayaOf(none)
		wantList(t, "maya", none, maya, nil, ok)
		p, ok = impl.FromMaya(none)
		wantList(t, "partition with maya", none, p, nil, ok)
		for runners := 2; runners <= impl.MaxRunners; runners++ {
			checkEmptyAbacus(t, impl.Abacus{Runners: runners, Beads: none})
		}
	}
	least, ok := impl.LeastBeads(upTo(40))
	wantList(t, "least", "40 beads of no cells", least, nil, ok)
}

func checkEmptyAbacus(t *testing.T, a impl.Abacus) {
	t.Helper()
	if !impl.IsAbacus(a) {
		t.Errorf("%v is an abacus", a)
	}
	made, ok := impl.AbacusOf(nil, a.Runners, 0)
	wantAbacus(t, "abacus", "no cells", made, a.Runners, nil, ok)
	rows, ok := impl.RunnersOf(a)
	wantRows(t, "runners", a, rows, make([][]int, a.Runners), ok)
	made, ok = impl.FromRunners(make([][]int, a.Runners))
	wantAbacus(t, "abacus with runners", rows, made, a.Runners, nil, ok)
	counts, ok := impl.CountsOf(a)
	wantList(t, "counts", a, counts, make([]int, a.Runners), ok)
	for _, from := range []int{-1, 0, 1, a.Runners} {
		moved, leg, ok := impl.MoveBead(a, from)
		wantNoAbacus(t, "move", a, moved, ok)
		wantNoValue(t, "leg", a, leg, ok)
		lifted, ok := impl.LiftBead(a, from)
		wantNoAbacus(t, "lift", a, lifted, ok)
	}
	down, moves, ok := impl.PushDown(a)
	wantAbacus(t, "down", a, down, a.Runners, nil, ok)
	wantValue(t, "moves", a, moves, 0, ok)
	movable, ok := impl.MovableBeads(a)
	wantList(t, "movable", a, movable, nil, ok)
	want := fmt.Sprint(a.Runners, ":-")
	text, ok := impl.AbacusText(a)
	wantValue(t, "text", a, text, want, ok)
	made, ok = impl.ParseAbacus(want)
	wantAbacus(t, "abacus with text", want, made, a.Runners, nil, ok)
}

func TestAbacusMostBeads(t *testing.T) {
	full := [][]int{upTo(40), append(upTo(39), 69), append(upTo(38), 53, 54), slices.Concat(upTo(10), upTo(41)[11:])}
	want := [][]int{nil, {30}, {15, 15}, ones(30)}
	for k, beads := range full {
		if !impl.AreBeads(beads) || !impl.IsAbacus(impl.Abacus{Runners: 6, Beads: beads}) {
			t.Errorf("%v are beads", beads)
		}
		p, ok := impl.FromBeads(beads)
		wantList(t, "partition with beads", beads, p, want[k], ok)
		again, ok := impl.BeadsOf(p, 40)
		wantList(t, "40 beads", p, again, beads, ok)
		a, ok := impl.AbacusOf(p, 2, 40)
		wantAbacus(t, "abacus with 40 beads", p, a, 2, beads, ok)
		shifted, ok := impl.ShiftBeads(beads, 0)
		wantList(t, "shifted by 0", beads, shifted, beads, ok)
		shifted, ok = impl.ShiftBeads(beads, 1)
		wantNoList(t, "shifted by 1", beads, shifted, ok)
		again, ok = impl.BeadsOf(p, 41)
		wantNoList(t, "41 beads", p, again, ok)
		a, ok = impl.AbacusOf(p, 2, 41)
		wantNoAbacus(t, "abacus with 41 beads", p, a, ok)
	}
	rows, ok := impl.FromRunners([][]int{upTo(20), upTo(20)})
	wantAbacus(t, "abacus with runners", "20 beads twice", rows, 2, upTo(40), ok)
	rows, ok = impl.FromRunners([][]int{upTo(21), upTo(20)})
	wantNoAbacus(t, "abacus with runners", "21 and 20 beads", rows, ok)
	rows, ok = impl.FromRunners([][]int{upTo(20), append(upTo(19), 34)})
	wantAbacus(t, "abacus with runners", "a bead at 69", rows, 2, append(upTo(39), 69), ok)
	rows, ok = impl.FromRunners([][]int{append(upTo(19), 35), upTo(20)})
	wantNoAbacus(t, "abacus with runners", "a bead at 70", rows, ok)
}

func TestAbacusBeadsOfEdges(t *testing.T) {
	for _, p := range [][]int{{1}, {4, 2, 1}, ones(30), {30}} {
		for _, n := range []int{len(p) - 1, -1, -40, 41, 1 << 32, math.MinInt, math.MaxInt} {
			beads, ok := impl.BeadsOf(p, n)
			wantNoList(t, fmt.Sprint(n, " beads"), p, beads, ok)
			a, ok := impl.AbacusOf(p, 3, n)
			wantNoAbacus(t, fmt.Sprint("abacus with beads: ", n), p, a, ok)
		}
		for _, runners := range badRunners() {
			a, ok := impl.AbacusOf(p, runners, len(p))
			wantNoAbacus(t, fmt.Sprint("abacus with runners: ", runners), p, a, ok)
		}
	}
}

func TestAbacusShiftEdges(t *testing.T) {
	shifted, ok := impl.ShiftBeads(nil, 40)
	wantList(t, "shifted by 40", "no beads", shifted, upTo(40), ok)
	shifted, ok = impl.ShiftBeads([]int{30}, 39)
	wantList(t, "shifted by 39", "30", shifted, append(upTo(39), 69), ok)
	shifted, ok = impl.ShiftBeads([]int{30}, 40)
	wantNoList(t, "shifted by 40", "30", shifted, ok)
	for _, by := range []int{-1, 41, -40, 1 << 32, math.MinInt, math.MaxInt} {
		for _, beads := range [][]int{nil, {0}, {1, 3, 6}, upTo(40)} {
			shifted, ok := impl.ShiftBeads(beads, by)
			wantNoList(t, fmt.Sprint("shifted by ", by), beads, shifted, ok)
		}
	}
}

func TestAbacusMoveEdges(t *testing.T) {
	for runners := 2; runners <= impl.MaxRunners; runners++ {
		a := impl.Abacus{Runners: runners, Beads: []int{runners - 1, runners + 1}}
		for _, from := range []int{runners - 1, -1, -runners, runners, 0, 2 * runners, 1000, 1001, math.MinInt, math.MinInt + runners, math.MaxInt} {
			moved, leg, ok := impl.MoveBead(a, from)
			wantNoAbacus(t, fmt.Sprint("move ", from), a, moved, ok)
			wantNoValue(t, fmt.Sprint("leg ", from), a, leg, ok)
		}
		moved, leg, ok := impl.MoveBead(a, runners+1)
		want, wantLeg := []int{1, runners - 1}, 1
		if runners == 2 {
			// A bead at 1 is in the way.
			wantNoAbacus(t, "move to a bead", a, moved, ok)
			wantNoValue(t, "leg to a bead", a, leg, ok)
			continue
		}
		wantAbacus(t, "move", a, moved, runners, want, ok)
		wantValue(t, "leg", a, leg, wantLeg, ok)
	}
	a := impl.Abacus{Runners: 6, Beads: []int{1, 2, 3, 4, 5, 6}}
	moved, leg, ok := impl.MoveBead(a, 6)
	wantAbacus(t, "move 6", a, moved, 6, upTo(6), ok)
	wantValue(t, "leg 6", a, leg, 5, ok)
}

func TestAbacusLiftEdges(t *testing.T) {
	for runners := 2; runners <= impl.MaxRunners; runners++ {
		most := append(upTo(39), 69)
		a := impl.Abacus{Runners: runners, Beads: movedBead(most, 69, 69-runners)}
		lifted, ok := impl.LiftBead(a, 69-runners)
		wantAbacus(t, "lift to 69", a, lifted, runners, most, ok)
		a.Beads = movedBead(most, 69, 70-runners)
		lifted, ok = impl.LiftBead(a, 70-runners)
		wantNoAbacus(t, "lift to 70", a, lifted, ok)
		a.Beads = most
		lifted, ok = impl.LiftBead(a, 69)
		wantNoAbacus(t, "lift from 69", a, lifted, ok)
		a.Beads = []int{30 - runners}
		lifted, ok = impl.LiftBead(a, 30-runners)
		wantAbacus(t, "lift to 30", a, lifted, runners, []int{30}, ok)
		a.Beads = []int{31 - runners}
		lifted, ok = impl.LiftBead(a, 31-runners)
		wantNoAbacus(t, "lift to 31", a, lifted, ok)
		a.Beads = []int{0, 1, runners}
		for _, from := range []int{0, -1, -runners, 2, runners + 1, 1000, 1001, math.MinInt, math.MaxInt, math.MaxInt - runners} {
			if slices.Contains(a.Beads, from) && from > 0 {
				continue
			}
			lifted, ok = impl.LiftBead(a, from)
			wantNoAbacus(t, fmt.Sprint("lift ", from), a, lifted, ok)
		}
	}
}

func TestAbacusPushEdges(t *testing.T) {
	a := impl.Abacus{Runners: 2, Beads: append(upTo(39), 69)}
	down, moves, ok := impl.PushDown(a)
	wantAbacus(t, "down", a, down, 2, upTo(40), ok)
	wantValue(t, "moves", a, moves, 15, ok)
	a = impl.Abacus{Runners: 6, Beads: []int{30}}
	down, moves, ok = impl.PushDown(a)
	wantAbacus(t, "down", a, down, 6, []int{0}, ok)
	wantValue(t, "moves", a, moves, 5, ok)
	a = impl.Abacus{Runners: 3, Beads: []int{3, 6, 9}}
	down, moves, ok = impl.PushDown(a)
	wantAbacus(t, "down", a, down, 3, []int{0, 3, 6}, ok)
	wantValue(t, "moves", a, moves, 3, ok)
	movable, ok := impl.MovableBeads(a)
	wantList(t, "movable", a, movable, []int{3}, ok)
}

// notBeads returns lists that are no beads, each for one reason.
func notBeads() [][]int {
	return [][]int{
		{1, 0}, {3, 1, 2}, {1, 3, 2}, {6, 3, 1}, {0, 2, 1, 3},
		{0, 0}, {1, 1}, {1, 3, 3}, {2, 2, 5},
		{-1}, {-1, 0}, {-5, 3}, {-2, -1}, {0, -1}, {math.MinInt}, {math.MinInt, 0}, {math.MinInt, math.MaxInt},
		{31}, {16, 17}, {0, 32}, {1, 31}, upTo(37)[31:], append(upTo(39), 70), append(upTo(38), 53, 55),
		{999}, {1000}, {1001}, {0, 1000}, {0, 1001}, append(upTo(39), 1000), append(upTo(39), 1001), {1 << 32}, {0, 1 << 32},
		{math.MaxInt}, {0, math.MaxInt}, {math.MaxInt - 1, math.MaxInt}, {math.MaxInt, math.MaxInt}, {math.MaxInt, 0}, {math.MaxInt, math.MinInt},
		upTo(41), append(upTo(40), 41), upTo(100000),
	}
}

func badRunners() []int {
	return []int{1, 7, 0, -1, -2, -6, 8, 40, 1 << 32, 1<<32 + 2, math.MinInt, math.MaxInt}
}

// notAbaci returns structs that are no abaci.
func notAbaci() []impl.Abacus {
	var list []impl.Abacus
	for _, beads := range notBeads() {
		list = append(list, impl.Abacus{Runners: 2, Beads: beads}, impl.Abacus{Runners: 6, Beads: beads})
	}
	for _, runners := range badRunners() {
		for _, beads := range [][]int{nil, {0}, {1, 3, 6}, {30}, {1, 0}} {
			list = append(list, impl.Abacus{Runners: runners, Beads: beads})
		}
	}
	return list
}

func TestAbacusInvalidBeads(t *testing.T) {
	for _, beads := range notBeads() {
		if impl.AreBeads(beads) {
			t.Errorf("%v are no beads", beads)
		}
		p, ok := impl.FromBeads(beads)
		wantNoList(t, "partition with beads", beads, p, ok)
		for _, by := range []int{0, 1, 40, -1, 41} {
			shifted, ok := impl.ShiftBeads(beads, by)
			wantNoList(t, "shifted", beads, shifted, ok)
		}
		least, ok := impl.LeastBeads(beads)
		wantNoList(t, "least", beads, least, ok)
	}
}

func TestAbacusInvalidPartitions(t *testing.T) {
	for _, p := range notPartitions() {
		for _, n := range []int{len(p), 0, 40, 41, -1} {
			beads, ok := impl.BeadsOf(p, n)
			wantNoList(t, "beads", p, beads, ok)
			a, ok := impl.AbacusOf(p, 2, n)
			wantNoAbacus(t, "abacus", p, a, ok)
		}
		maya, ok := impl.MayaOf(p)
		wantNoList(t, "maya", p, maya, ok)
	}
}

func TestAbacusInvalidAbaci(t *testing.T) {
	for _, a := range notAbaci() {
		if impl.IsAbacus(a) {
			t.Errorf("%v is no abacus", a)
		}
		rows, ok := impl.RunnersOf(a)
		wantNoRows(t, "runners", a, rows, ok)
		counts, ok := impl.CountsOf(a)
		wantNoList(t, "counts", a, counts, ok)
		for _, from := range append([]int{0, 1, 3, 6, 30, -1, 1000, math.MinInt, math.MaxInt}, a.Beads[:min(len(a.Beads), 41)]...) {
			moved, leg, ok := impl.MoveBead(a, from)
			wantNoAbacus(t, "move", a, moved, ok)
			wantNoValue(t, "leg", a, leg, ok)
			lifted, ok := impl.LiftBead(a, from)
			wantNoAbacus(t, "lift", a, lifted, ok)
		}
		down, moves, ok := impl.PushDown(a)
		wantNoAbacus(t, "down", a, down, ok)
		wantNoValue(t, "moves", a, moves, ok)
		movable, ok := impl.MovableBeads(a)
		wantNoList(t, "movable", a, movable, ok)
		text, ok := impl.AbacusText(a)
		wantNoValue(t, "text", a, text, ok)
	}
}

func TestAbacusRunnerEdges(t *testing.T) {
	a, ok := impl.FromRunners([][]int{{}, {15}})
	wantNoAbacus(t, "abacus with runners", "a bead at 31", a, ok)
	a, ok = impl.FromRunners([][]int{{15}, {}})
	wantAbacus(t, "abacus with runners", "a bead at 30", a, 2, []int{30}, ok)
	rows, ok := impl.RunnersOf(a)
	wantRows(t, "runners", a, rows, [][]int{{15}, {}}, ok)
	a, ok = impl.FromRunners([][]int{{}, {}, {}, {}, {}, {0, 2}})
	wantAbacus(t, "abacus with runners", "the last of 6", a, 6, []int{5, 17}, ok)
	counts, ok := impl.CountsOf(a)
	wantList(t, "counts", a, counts, []int{0, 0, 0, 0, 0, 2}, ok)
	for _, number := range []int{0, 1, 7, 8, 40, 1000} {
		for _, list := range [][]int{nil, {}, {0}} {
			rows := slices.Repeat([][]int{list}, number)
			a, ok := impl.FromRunners(rows)
			wantNoAbacus(t, fmt.Sprint("abacus with runners: ", number), list, a, ok)
		}
	}
	for number := 2; number <= 6; number++ {
		a, ok := impl.FromRunners(slices.Repeat([][]int{{0}}, number))
		wantAbacus(t, "abacus with runners", number, a, number, upTo(number), ok)
		for _, list := range notRows() {
			for at := range number {
				rows := make([][]int, number)
				rows[at] = list
				a, ok := impl.FromRunners(rows)
				wantNoAbacus(t, fmt.Sprint("abacus with runner ", at), list, a, ok)
			}
		}
	}
}

// notRows returns lists that are rows of the beads of no runner.
func notRows() [][]int {
	return [][]int{
		{1, 0}, {0, 2, 1}, {0, 0}, {2, 2}, {0, 1, 1},
		{-1}, {-1, 0}, {0, -1}, {16}, {34}, {35}, {36}, {37}, {70}, {500}, {1000}, {0, 1000}, {1001},
		{math.MaxInt}, {0, math.MaxInt}, {math.MinInt}, {math.MaxInt, math.MaxInt}, {math.MinInt, 0},
		// products with numbers of runners that come back to a small number
		{1 << 63 / 2}, {1 << 62}, {1 << 61}, {math.MaxInt/3 + 1}, {math.MaxInt/5 + 1}, {-1 << 62},
		upTo(41), upTo(100000),
	}
}

func TestAbacusMayaEdges(t *testing.T) {
	for m, want := range map[[2]int][]int{{29, -1}: {30}, {0, -30}: ones(30), {0, -1}: {1}, {14, -16}: append([]int{15}, ones(15)...)} {
		p, ok := impl.FromMaya(m[:])
		wantList(t, "partition with maya", m, p, want, ok)
	}
	none := [][]int{
		{0}, {-1}, {1, 0}, {-1, -2}, {1, 0, -1}, {0, -1, -2}, {2, 1, 0, -1}, {0, -1, -2, -3}, {3},
		{-1, 0}, {0, 0}, {-1, -1}, {0, 3, -1, -3}, {3, 0, -3, -1}, {-3, -1, 0, 3}, {3, -1, 0, -3}, {3, 3, -1, -1}, {3, 0, -1, -1}, {3, 0, 0, -1, -1, -3},
		{30, -1}, {0, -31}, {29, -2}, {1, -30}, {15, -16}, {16, 0, -1, -14}, {5, 4, 3, 2, 1, 0, -1, -2, -3, -4, -5, -6},
		{1000, -1}, {0, -1000}, {1000, -1000}, {1001, -1}, {0, -1001}, {1001, -1001}, {math.MaxInt, -1}, {0, math.MinInt}, {math.MaxInt, math.MinInt}, {math.MinInt, math.MaxInt},
		{1 << 32, -1}, {0, -1 << 32}, {math.MinInt}, {math.MaxInt},
		fallingFrom(29, 60), fallingFrom(30, 61), fallingFrom(30, 62), fallingFrom(1000, 2001), fallingFrom(50000, 100000), slices.Repeat([]int{0, -1}, 30), slices.Repeat([]int{0, -1}, 100000),
	}
	for _, m := range none {
		p, ok := impl.FromMaya(m)
		wantNoList(t, "partition with maya", m[:min(len(m), 62)], p, ok)
	}
}

// fallingFrom returns so many numbers, each 1 less than the one before.
func fallingFrom(first, size int) []int {
	var list []int
	for i := range size {
		list = append(list, first-i)
	}
	return list
}

func TestAbacusTextEdges(t *testing.T) {
	longest := strings.Trim(strings.ReplaceAll(fmt.Sprint(upTo(41)[1:]), " ", ","), "[]")
	tail := strings.TrimPrefix(longest, "1,2,3,4,5,6,7,8,9,10,")
	for text, beads := range map[string][]int{
		"2:0,1,2,3,4,5,6,7,8,9," + tail: append(upTo(10), upTo(41)[11:]...),
		"6:0":                           {0}, "2:30": {30}, "3:-": nil, "4:0,31": {0, 31}, "5:10,20": {10, 20},
	} {
		a, ok := impl.ParseAbacus(text)
		wantAbacus(t, "abacus with text", text, a, int(text[0]-'0'), beads, ok)
	}
	none := []string{
		"", ":", "-", "3", "3:", ":-", ":1", ":1,3,6", "1,3,6", "3:-,", "3:-,1", "3:1,-", "3:--", "3:-1", "3:-0", "3:0,-1", "3::-", "3::1", "3:1:3", "3:1,3,6:", "3-",
		"3:1,", "3:,1", "3:1,,3", "3:,", "3:1,3,6,", "3:1;3", "3:1 3", "3:1, 3", "3: 1", " 3:1", "3 :1", "3:1 ", "3:1\n", "3:1\x00", "3,1", "3:1.3",
		"03:1", "+3:1", "-3:1", "3:+1", "3:01", "3:1,03", "3:00", "3:1_0", "3:0x1", "x:1", "3:x", "3:1,x", "3:１", "３:1", "3.0:1", "3:1e1",
		"1:-", "1:0", "7:-", "7:0", "0:-", "0:0", "-2:-", "2147483648:-", "4294967298:-", "18446744073709551618:-", "9223372036854775807:0", "-9223372036854775808:0", "22:0",
		"3:3,1", "3:1,1", "3:1,3,3", "3:31", "3:16,17", "3:1000", "3:1001", "3:0,1000", "3:9223372036854775807", "3:9223372036854775808", "3:18446744073709551617", "3:-9223372036854775808", "3:0,18446744073709551617",
		"2:0," + longest, "2:0,1,2,3,4,5,6,7,8,9," + tail + ",", "2:" + strings.Repeat("0", 1000000), "2:" + strings.Repeat("0,", 1000000) + "1", strings.Repeat(":", 1000000), strings.Repeat("2", 1000000) + ":-", "2:" + strings.Repeat("-", 1000000),
	}
	for _, s := range none {
		a, ok := impl.ParseAbacus(s)
		wantNoAbacus(t, "abacus with text", s[:min(len(s), 60)], a, ok)
	}
}
