package tests

import (
	"fmt"
	"math"
	"slices"
	"strings"
	"testing"

	"loop.example/g01136/impl"
)

// Promise 10: the edges that the chapter names or that its limits make, and invalid arguments.

func TestConsoleLimits(t *testing.T) {
	wantValue(t, "limit", "scripts", impl.MaxScript, 3000, true)
	wantValue(t, "limit", "lines", impl.MaxLines, 50, true)
}

func wantDesk(t *testing.T, d impl.Desk, want bool) {
	t.Helper()
	if got := impl.IsDesk(d); got != want {
		t.Errorf("%.80s is a desk: %v, want %v", fmt.Sprint(d), got, want)
	}
}

func TestConsoleDesks(t *testing.T) {
	for _, p := range [][]int{nil, {}, {1}, {4, 2, 1}, {30}, {15, 15}, ones(30)} {
		for runners := 2; runners <= impl.MaxRunners; runners++ {
			wantDesk(t, desk(runners, p...), true)
			wantReply(t, desk(runners, p...), "show", textOf(p))
		}
	}
	for _, runners := range []int{1, impl.MaxRunners + 1, 0, -1, -2, -6, 30, 1 << 32, 1<<32 + 3, math.MaxInt, math.MinInt, math.MinInt + 3} {
		for _, p := range [][]int{nil, {}, {4, 2, 1}, {30}} {
			wantDesk(t, desk(runners, p...), false)
			wantNoDesk(t, desk(runners, p...))
		}
	}
	for _, p := range append(notPartitions(), []int{4, 2, 1, 0}, []int{4, 1, 2}, []int{29, 1, 1}) {
		for _, runners := range []int{2, 3, impl.MaxRunners, 1, impl.MaxRunners + 1} {
			wantDesk(t, desk(runners, p...), false)
			wantNoDesk(t, desk(runners, p...))
		}
	}
}

// wantNoDesk tries all kinds of lines, among them those that would make it a desk.
func wantNoDesk(t *testing.T, d impl.Desk) {
	t.Helper()
	for _, line := range append(plainLines(), "", "fly", "take 3", "take 0", "runners 2", "runners 3", "drop 0", "bar 0", "at 3 0", "beads 3", "same 3", "show\n") {
		wantNoLine(t, d, line)
	}
}

// edgeDesks are desks on which each row of the table does something, or fails.
func edgeDesks() []impl.Desk {
	return []impl.Desk{impl.FirstDesk(), desk(2), desk(6), desk(3, 5, 2, 1), desk(5, 4, 2, 1), desk(2, 30), desk(6, ones(30)...), desk(3, 15, 15), desk(5, 9, 8, 7, 6)}
}

// wantWhat wants lines to be none of the table.
func wantWhat(t *testing.T, lines ...string) {
	t.Helper()
	for _, line := range lines {
		for _, d := range edgeDesks() {
			wantReply(t, d, line, "what")
		}
	}
}

// fullLines are a line for each row of the table, with all words.
func fullLines() []string {
	return append(plainLines(), "take 3+1", "runners 4", "drop 0", "bar 0", "at 7 3", "beads 4", "same 4+2+1")
}

func TestConsoleBlanks(t *testing.T) {
	wantWhat(t, "", " ", "  ", "   ", strings.Repeat(" ", 100))
	for _, line := range fullLines() {
		wantWhat(t, " "+line, line+" ", " "+line+" ", "  "+line, line+"  ")
		if strings.Contains(line, " ") {
			wantWhat(t, strings.Replace(line, " ", "  ", 1), strings.Replace(line, " ", "\t", 1), strings.Replace(line, " ", "", 1), strings.Replace(line, " ", "\u00a0", 1), strings.Replace(line, " ", ",", 1))
		}
		wantWhat(t, "\t"+line, line+"\t", line+"\r", line+"\x00", "\ufeff"+line)
	}
	wantWhat(t, "at 7  3", "at  7 3", "at 7 3 ", "at 7 ", "at ", "at  ", "at  3", "take ", "same ", "runners ", "drop ", "bar ", "beads ")
}

func TestConsoleTooFewOrTooManyWords(t *testing.T) {
	for _, line := range fullLines() {
		wantWhat(t, line+" 0", line+" 1", line+" 4+2+1", line+" "+line, line+" 0 0", line+" x")
		if words := strings.Split(line, " "); len(words) > 1 {
			wantWhat(t, strings.Join(words[:len(words)-1], " "), strings.Join(words[1:], " "), words[0], words[0]+" ")
		}
	}
	wantWhat(t, "at 7", "at 7 3 0", "at 0 0 0", "take 3 1", "take 3 + 1", "same 4 2 1", "beads 3 4")
}

func TestConsoleNames(t *testing.T) {
	for _, line := range fullLines() {
		name, rest, _ := strings.Cut(line, " ")
		for _, other := range []string{
			name + "s", name + name, "x" + name, name + "x", name + "1", name[1:], name[:len(name)-1],
			strings.ToUpper(name), strings.ToUpper(name[:1]) + name[1:], name[:len(name)-1] + strings.ToUpper(name[len(name)-1:]), "-" + name, name + "?",
		} {
			wantWhat(t, strings.TrimSuffix(other+" "+rest, " "), other)
		}
	}
	wantWhat(t, "fly", "what", "no", "ok", "yes", "help", "N", "take P", "at N R", "same Q", "`show`", "0", "1", "4+2+1", "-")
}

// numberOrders are lines with a place for a number; the last one fails for each.
func numberOrders() []string {
	return []string{"runners %", "drop %", "bar %", "beads %", "at % 0", "at 7 %", "at 31 %"}
}

func numberLine(order, number string) string {
	return strings.Replace(order, "%", number, 1)
}

func TestConsoleNumbers(t *testing.T) {
	for _, order := range numberOrders() {
		for _, number := range []string{"0", "1", "2", "3", "4", "5", "6", "7", "9", "10", "30", "31", "40", "41", "99", "100", "999", "1000", "9999", "10000", "99999", "100000", "123456", "900000", "999998", "999999"} {
			for _, d := range edgeDesks() {
				checkLine(t, d, numberLine(order, number))
			}
		}
		for _, d := range edgeDesks() {
			wantReply(t, d, numberLine(order, "999999"), "no")
		}
	}
	wantLine(t, desk(3, 4, 2, 1), "at 0 0", desk(3), "0")
	wantLine(t, desk(3, 6, 3, 3), "drop 0", desk(3, 3, 3, 3), "3+3+3")
}

func TestConsoleNoNumbers(t *testing.T) {
	for _, order := range numberOrders() {
		for _, number := range []string{
			// Too great, with superfluous zeros or with a sign.
			"1000000", "1000001", "9999999", "10000000", "4294967296", "4294967299", "9223372036854775807", "9223372036854775808", "18446744073709551616", "18446744073709551619", strings.Repeat("9", 100), "1" + strings.Repeat("0", 1000),
			"00", "01", "03", "000", "003", "0000003", "0999999", "000000", "0000000", strings.Repeat("0", 100), strings.Repeat("0", 100) + "3",
			"+0", "+3", "-0", "-1", "-3", "--3", "+-3", "-999999", "-9223372036854775808", "-9223372036854775809",
			// Of other bytes, or without digits.
			"0x3", "0b1", "0o3", "3.0", "3.", ".3", "3e0", "1e3", "1_0", "3,", "3;", "3a", "a3", "a", "x", "N", "K", "R", "three", "III", "\u0663", "\uff13", "\u00b3", "3\x00", "\x003", "3\xff", "\xff", "\xff\xfe", "'3'", "\"3\"", "3+1", "1+1", "+", "-", "", "3%",
		} {
			wantWhat(t, numberLine(order, number))
		}
	}
	wantWhat(t, "at 07 3", "at 7 03", "at x y", "at -7 3", "at 7 -3", "at 1000000 1000000", "at 31 1000000", "at 1000000 0")
}

func TestConsoleTexts(t *testing.T) {
	for _, text := range []string{"0", "1", "30", "29+1", "15+15", "4+2+1", "1+1", "10+9+8+3", textOf(ones(30)), textOf(slices.Repeat([]int{2}, 15))} {
		p, _ := partWithText(text)
		for _, d := range edgeDesks() {
			wantLine(t, d, "take "+text, desk(d.Runners, p...), text)
			checkLine(t, d, "same "+text)
		}
	}
	for _, text := range []string{
		"1+2", "3+1+2", "1+1+2", "9+10", "4+2+1+0", "0+0", "0+1", "1+0", "0+", "+0", "00", "01", "04+2+1", "4+02+1", "4+2+01", "010",
		"31", "30+1", "16+15", "15+15+1", "99", "999999", "1000000", "9223372036854775807", "9223372036854775808", "18446744073709551617", "18446744073709551620+2+1", textOf(ones(31)), textOf(slices.Repeat([]int{2}, 16)),
		"-1", "+1", "+4+2+1", "4+2+1+", "4++2", "+", "++", "4+-2", "4+2+-1", "4-2-1", "4,2,1", "4.2.1", "4+2+1.0", "4 2 1", "[4 2 1]", "4+2+1a", "a", "x", "P", "Q", "-", "", "\x00", "4+2+1\x00", "\xff", "\u0664", "4\uff0b2", "four", "RU", "3:1,3,6", "4+2+1\r", "4+2+1\t",
	} {
		wantWhat(t, "take "+text, "same "+text)
	}
}

// Functions that fail change nothing.
func TestConsoleFailures(t *testing.T) {
	for _, of := range []struct {
		d    impl.Desk
		line string
	}{
		{desk(3, 4, 2, 1), "runners 0"}, {desk(3, 4, 2, 1), "runners 1"}, {desk(3, 4, 2, 1), "runners 7"}, {desk(3, 4, 2, 1), "runners 999999"},
		{desk(3, 4, 2, 1), "drop 1"}, {desk(3), "drop 0"}, {desk(3, 1), "drop 0"}, {desk(2, 30), "drop 1"},
		{desk(3, 4, 2, 1), "bar 1"}, {desk(3, 4, 4), "bar 0"}, {desk(2, 4, 2, 1), "bar 0"}, {desk(4, 4, 2, 1), "bar 0"}, {desk(6, 6), "bar 0"}, {desk(3), "bar 0"}, {desk(5, 3, 1), "bar 0"}, {desk(3, 3, 3), "bar 0"},
		{desk(3, 2, 2), "double"}, {desk(3, 16), "double"}, {desk(3, 1, 1), "double"}, {desk(3, 30), "double"}, {desk(3, 10, 6), "double"},
		{desk(3, 4, 2, 1), "at 7 15"}, {desk(3, 4, 2, 1), "at 0 1"}, {desk(3, 4, 2, 1), "at 30 5604"}, {desk(3, 4, 2, 1), "at 31 0"}, {desk(3, 4, 2, 1), "at 999999 999999"},
		{desk(3, 4, 2, 1), "beads 2"}, {desk(3, 4, 2, 1), "beads 0"}, {desk(3, 4, 2, 1), "beads 41"}, {desk(3, 1), "beads 0"}, {desk(6, ones(30)...), "beads 29"},
		{desk(3, 21), "chains"}, {desk(3, 30), "chains"}, {desk(2, ones(21)...), "chains"}, {desk(2, 11, 10), "chains"},
		{desk(3, 4, 2, 1), "same 0"}, {desk(3, 4, 2, 1), "same 4+2"}, {desk(2, 2, 1), "same 3+3"}, {desk(3), "same 1"},
	} {
		wantReply(t, of.d, of.line, "no")
	}
	wantLine(t, desk(3, 15), "double", desk(3, append([]int{16}, ones(14)...)...), textOf(append([]int{16}, ones(14)...)))
	wantReply(t, desk(3, 20), "chains", "1")
	wantReply(t, desk(6, ones(30)...), "beads 30", "6:"+strings.Join(numbersFrom(1, 30), ","))
	wantReply(t, desk(6), "beads 40", "6:"+strings.Join(numbersFrom(0, 39), ","))
}

func numbersFrom(first, last int) []string {
	var list []string
	for n := first; n <= last; n++ {
		list = append(list, fmt.Sprint(n))
	}
	return list
}

func TestConsoleRunnersEdges(t *testing.T) {
	for _, d := range edgeDesks() {
		for n := range 1000 {
			line := fmt.Sprint("runners ", n)
			if n < 2 || n > impl.MaxRunners {
				wantReply(t, d, line, "no")
				continue
			}
			wantLine(t, d, line, desk(n, d.Parts...), "ok")
		}
	}
}

// Each byte is tried alone, and in front of, within and behind the words of all rows.
func TestConsoleBytes(t *testing.T) {
	for b := range 256 {
		letter := string([]byte{byte(b)})
		lines := []string{letter, letter + letter, "take " + letter, "same " + letter, "at " + letter + " 0", "at 7 " + letter, "runners " + letter, "drop " + letter, "bar " + letter, "beads " + letter, "take 4" + letter + "2", "same 4" + letter + "2+1", "at" + letter + "7 0"}
		for _, line := range fullLines() {
			lines = append(lines, letter+line, line+letter, line[:2]+letter+line[2:], line[:1]+letter+line[2:], line+" "+letter)
		}
		for _, line := range lines {
			for _, d := range edgeDesks() {
				if letter == "\n" {
					wantNoLine(t, d, line)
					continue
				}
				checkLine(t, d, line)
			}
		}
	}
}

func TestConsoleNewlinesInLines(t *testing.T) {
	for _, line := range append(fullLines(), "", " ", "fly") {
		for _, text := range []string{line + "\n", "\n" + line, "\n" + line + "\n", line + "\nshow", line + " \n", line + "\r\n", line + "\x00\n"} {
			for _, d := range edgeDesks() {
				wantNoLine(t, d, text)
			}
		}
	}
}

func TestConsoleLongLines(t *testing.T) {
	for _, d := range edgeDesks() {
		for _, piece := range []string{"x", " ", "0", "9", "+", "1+", "show ", "\x00", "\xff"} {
			for _, start := range []string{"", "show ", "take ", "drop ", "same ", "at 7 "} {
				text := start + strings.Repeat(piece, impl.MaxScript+1)
				wantReply(t, d, text[:impl.MaxScript-1], "what")
				wantReply(t, d, text[:impl.MaxScript], "what")
				wantNoLine(t, d, text[:impl.MaxScript+1])
				wantNoLine(t, d, text)
			}
		}
		wantNoLine(t, d, strings.Repeat("x", impl.MaxScript-1)+"\n")
		wantNoLine(t, d, strings.Repeat("show\n", 1<<18))
	}
}

func TestConsoleShortScripts(t *testing.T) {
	wantScript(t, "", nil, impl.FirstDesk(), nil)
	wantScript(t, "\n", []string{"what"}, impl.FirstDesk(), []int{1})
	wantScript(t, "\n\n", []string{"what", "what"}, impl.FirstDesk(), []int{1, 2})
	wantScript(t, " \n", []string{"what"}, impl.FirstDesk(), []int{1})
	wantScript(t, "show\n", []string{"4+2+1"}, impl.FirstDesk(), nil)
	wantScript(t, "show\n\n", []string{"4+2+1", "what"}, impl.FirstDesk(), []int{2})
	wantScript(t, "\nshow\n", []string{"what", "4+2+1"}, impl.FirstDesk(), []int{1})
	wantScript(t, "show\r\n", []string{"what"}, impl.FirstDesk(), []int{1})
	wantScript(t, "down\nshow\n", []string{"1", "1"}, desk(3, 1), nil)
	for _, text := range []string{"show", " ", "x", "\r", "\x00", "\xff", "\nshow", "show\nshow", "show\n ", "show\nx", "show\n\nshow", "show\n\r", "show\r", "down\nshow\n\x00", "show\x00"} {
		wantNoScript(t, text)
	}
}

func TestConsoleNumberOfLines(t *testing.T) {
	for _, line := range []string{"", "show", "turn", "weight", "fly", "drop 9"} {
		for _, number := range []int{1, 2, impl.MaxLines - 1, impl.MaxLines} {
			checkScript(t, slices.Repeat([]string{line}, number))
		}
		for _, number := range []int{impl.MaxLines + 1, impl.MaxLines + 2, 2 * impl.MaxLines, 200} {
			wantNoScript(t, strings.Repeat(line+"\n", number))
		}
		// Without the last newline it is none, whether or not the number of lines is.
		wantNoScript(t, strings.Repeat(line+"\n", impl.MaxLines-1)+"show")
		wantNoScript(t, strings.Repeat(line+"\n", impl.MaxLines)+"show")
	}
	wantNoScript(t, strings.Repeat("\n", impl.MaxScript))
	wantNoScript(t, strings.Repeat("\n", 1<<20))
}

func TestConsoleNumberOfBytes(t *testing.T) {
	// One long line, and as many lines as there can be, of 60 bytes each.
	single := strings.Repeat("x", impl.MaxScript-1)
	checkScript(t, []string{single})
	checkScript(t, []string{single[1:]})
	wantNoScript(t, single+"x\n")
	wantNoScript(t, single+"x")
	wantNoScript(t, single+"\n\n")

	var lines []string
	for k := range impl.MaxLines {
		p := append([]int{30 - k%15}, ones(k%15)...)
		lines = append(lines, "take "+textOf(p))
	}
	script := scriptOf(lines...)
	room := impl.MaxScript - len(script)
	for k := range lines {
		longer := slices.Clone(lines)
		longer[k] += strings.Repeat(" ", room)
		checkScript(t, longer)
		wantNoScript(t, scriptOf(longer[:k]...)+longer[k]+" \n"+scriptOf(longer[k+1:]...))
	}
	// So many lines of 61 and of 59 bytes, none of which fails, are as many bytes as there can be.
	most := slices.Repeat([]string{"take " + textOf(ones(28)), "take " + textOf(ones(27))}, impl.MaxLines/2)
	wantValue(t, "number of bytes", "the greatest script", len(scriptOf(most...)), impl.MaxScript, true)
	checkScript(t, most)
	most[0] = most[0] + " "
	wantNoScript(t, scriptOf(most...))
	for _, size := range []int{impl.MaxScript, impl.MaxScript + 1, 1 << 20} {
		for _, piece := range []string{"x", " ", "0", "show\n", "\x00", "\xff\n"} {
			text := strings.Repeat(piece, size)
			wantNoScript(t, text[:size])
			wantNoScript(t, text[:size]+"\n")
		}
	}
}

// The numbers of the lines that fail are counted from 1, and the reply alone decides.
func TestConsoleFailedLines(t *testing.T) {
	for _, of := range []struct {
		lines  []string
		failed []int
	}{
		{[]string{"fly", "show", "show"}, []int{1}},
		{[]string{"drop 1", "show", "show"}, []int{1}},
		{[]string{"show", "show", "fly"}, []int{3}},
		{[]string{"show", "show", "drop 1"}, []int{3}},
		{[]string{"show", "", "show", "runners 9", "show"}, []int{2, 4}},
		{[]string{"fly", "drop 1", "", "runners 1", "take 1+2"}, []int{1, 2, 3, 4, 5}},
		{[]string{"show", "weight", "sign", "parts", "border", "same 7"}, nil},
		{[]string{"same 4", "same 6+1", "same 7", "same x"}, []int{1, 2, 4}},
		{[]string{"drop 0", "drop 0", "drop 0", "drop 0"}, []int{3, 4}},
		{[]string{"take 0", "border", "weight", "sign", "chains", "beads 0"}, nil},
		{[]string{"double", "double", "double"}, []int{2, 3}},
	} {
		numbers, ok := impl.FailedLines(scriptOf(of.lines...))
		wantList(t, "failed lines", of.lines, numbers, of.failed, ok)
		checkScript(t, of.lines)
	}
	for k := range impl.MaxLines {
		lines := slices.Repeat([]string{"show"}, impl.MaxLines)
		lines[k] = "shows"
		numbers, ok := impl.FailedLines(scriptOf(lines...))
		wantList(t, "failed lines", k, numbers, []int{k + 1}, ok)
	}
}

// A desk that is changed by many lines, one after the other.
func TestConsoleLongRuns(t *testing.T) {
	down := slices.Repeat([]string{"drop 0"}, 15)
	wantScript(t, scriptOf(slices.Concat([]string{"take 30", "runners 2"}, down, []string{"drop 0", "show"})...),
		[]string{"30", "ok", "28", "26", "24", "22", "20", "18", "16", "14", "12", "10", "8", "6", "4", "2", "0", "no", "0"}, desk(2), []int{18})
	wantScript(t, scriptOf("take 9+8+7+6", "runners 5", "bar 0", "bar 0", "bar 0", "bar 0", "bar 0", "bar 0", "show", "turn", "runners 4", "drop 0"),
		[]string{"9+8+7+6", "ok", "8+7+6+4", "7+6+4+3", "6+4+3+2", "4+3+2+1", "3+2", "0", "0", "0", "ok", "no"}, desk(4), []int{12})
	wantScript(t, strings.Repeat("turn\n", impl.MaxLines), slices.Repeat([]string{"3+2+1+1", "4+2+1"}, impl.MaxLines/2), impl.FirstDesk(), nil)
	wantScript(t, scriptOf("runners 6", "show", "runners 7", "runners 2", "runners 1", "down", "runners 5", "fly", "take 3", "bar 0", "bar 0"),
		[]string{"ok", "4+2+1", "no", "ok", "no", "1", "ok", "what", "3", "no", "no"}, desk(5, 3), []int{3, 5, 8, 10, 11})
}
