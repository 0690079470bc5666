package tests

import (
	"fmt"
	"regexp"
	"slices"
	"strings"
	"testing"

	"loop.example/g01136/impl"
)

// The model reads lines by patterns made of the first column of the chapter's table, looks texts up in a list of all partitions, and makes the call that the row names.

// A deskCall returns what is on a desk behind a line with such words behind the first one, and the reply.
type deskCall func(d impl.Desk, words []string) (impl.Desk, string)

type deskRow struct {
	pattern *regexp.Regexp
	do      deskCall
}

const numberPattern = "(0|[1-9][0-9]{0,5})"
const textPattern = "([0-9+]+)"

var letters = regexp.MustCompile(` ([NKRPQ])`)

func tableRow(line string, do deskCall) deskRow {
	pattern := letters.ReplaceAllStringFunc(line, func(letter string) string {
		if letter == " P" || letter == " Q" {
			return " " + textPattern
		}
		return " " + numberPattern
	})
	return deskRow{regexp.MustCompile(`\A` + pattern + `\z`), do}
}

var deskRows = []deskRow{
	tableRow("take P", func(d impl.Desk, words []string) (impl.Desk, string) {
		p, isText := partWithText(words[0])
		if !isText {
			return d, "what"
		}
		return become(d, p, true)
	}),
	tableRow("runners N", func(d impl.Desk, words []string) (impl.Desk, string) {
		n := numberIn(words[0])
		if n < 2 || n > impl.MaxRunners {
			return d, "no"
		}
		return impl.Desk{Parts: d.Parts, Runners: n}, "ok"
	}),
	tableRow("turn", func(d impl.Desk, _ []string) (impl.Desk, string) {
		p, ok := impl.ConjugateOf(d.Parts)
		return become(d, p, ok)
	}),
	tableRow("drop K", func(d impl.Desk, words []string) (impl.Desk, string) {
		p, _, ok := impl.TakeRim(d.Parts, d.Runners, numberIn(words[0]))
		return become(d, p, ok)
	}),
	tableRow("down", func(d impl.Desk, _ []string) (impl.Desk, string) {
		p, ok := impl.CoreOf(d.Parts, d.Runners)
		return become(d, p, ok)
	}),
	tableRow("bar K", func(d impl.Desk, words []string) (impl.Desk, string) {
		p, ok := impl.TakeBar(d.Parts, d.Runners, numberIn(words[0]))
		return become(d, p, ok)
	}),
	tableRow("double", func(d impl.Desk, _ []string) (impl.Desk, string) {
		p, ok := impl.DoubleOf(d.Parts)
		return become(d, p, ok)
	}),
	tableRow("at N R", func(d impl.Desk, words []string) (impl.Desk, string) {
		p, ok := impl.PartitionWith(numberIn(words[0]), numberIn(words[1]))
		return become(d, p, ok)
	}),
	tableRow("show", func(d impl.Desk, _ []string) (impl.Desk, string) {
		return d, textOf(d.Parts)
	}),
	tableRow("border", func(d impl.Desk, _ []string) (impl.Desk, string) {
		word, ok := impl.BorderWord(d.Parts)
		if ok && word == "" {
			return d, "-"
		}
		return told(d, word, ok)
	}),
	tableRow("weight", func(d impl.Desk, _ []string) (impl.Desk, string) {
		weight, ok := impl.WeightOf(d.Parts, d.Runners)
		return told(d, weight, ok)
	}),
	tableRow("sign", func(d impl.Desk, _ []string) (impl.Desk, string) {
		sign, ok := impl.SignOf(d.Parts, d.Runners)
		return told(d, map[int]string{1: "+", -1: "-"}[sign], ok)
	}),
	tableRow("parts", func(d impl.Desk, _ []string) (impl.Desk, string) {
		quotient, ok := impl.QuotientOf(d.Parts, d.Runners)
		texts := ""
		for _, p := range quotient {
			texts += " " + textOf(p)
		}
		return told(d, strings.TrimPrefix(texts, " "), ok)
	}),
	tableRow("runs", func(d impl.Desk, _ []string) (impl.Desk, string) {
		runs, ok := impl.CountRuns(d.Parts, d.Runners)
		return told(d, runs, ok)
	}),
	tableRow("beads N", func(d impl.Desk, words []string) (impl.Desk, string) {
		a, ok := impl.AbacusOf(d.Parts, d.Runners, numberIn(words[0]))
		text, ok2 := impl.AbacusText(a)
		return told(d, text, ok && ok2)
	}),
	tableRow("chains", func(d impl.Desk, _ []string) (impl.Desk, string) {
		chains, ok := impl.CountChains(d.Parts)
		return told(d, chains, ok)
	}),
	tableRow("same Q", func(d impl.Desk, words []string) (impl.Desk, string) {
		q, isText := partWithText(words[0])
		if !isText {
			return d, "what"
		}
		same, ok := impl.SameBlock(d.Parts, q, d.Runners)
		return told(d, map[bool]string{true: "yes", false: "no"}[same], ok)
	}),
}

// become returns the desk whose Parts have become p, if that is ok.
func become(d impl.Desk, p []int, ok bool) (impl.Desk, string) {
	if !ok {
		return d, "no"
	}
	return impl.Desk{Parts: p, Runners: d.Runners}, textOf(p)
}

func told(d impl.Desk, reply any, ok bool) (impl.Desk, string) {
	if !ok {
		return d, "no"
	}
	return d, fmt.Sprint(reply)
}

func numberIn(word string) int {
	number := 0
	for _, digit := range word {
		number = 10*number + int(digit-'0')
	}
	return number
}

func textOf(p []int) string {
	if len(p) == 0 {
		return "0"
	}
	return strings.ReplaceAll(strings.Trim(fmt.Sprint(p), "[]"), " ", "+")
}

var partsByText = map[string][]int{}

// partWithText returns the partition with a text, of all that there are.
func partWithText(text string) ([]int, bool) {
	if len(partsByText) == 0 {
		for n := 0; n <= impl.MaxCells; n++ {
			for _, p := range partitions(n) {
				partsByText[textOf(p)] = p
			}
		}
	}
	p, ok := partsByText[text]
	return p, ok
}

// lineByTable returns the desk behind a line, and the reply.
func lineByTable(d impl.Desk, line string) (impl.Desk, string) {
	for _, row := range deskRows {
		if found := row.pattern.FindStringSubmatch(line); found != nil {
			return row.do(d, found[1:])
		}
	}
	return d, "what"
}

// scriptByTable returns the desk behind lines, the replies to them, and the numbers of those that fail.
func scriptByTable(lines []string) (impl.Desk, []string, []int) {
	d := impl.Desk{Parts: []int{4, 2, 1}, Runners: 3}
	var replies []string
	var failed []int
	for i, line := range lines {
		behind, reply := lineByTable(d, line)
		if reply == "no" || reply == "what" {
			failed = append(failed, i+1)
		}
		d = behind
		replies = append(replies, reply)
	}
	return d, replies, failed
}

func desk(runners int, p ...int) impl.Desk {
	return impl.Desk{Parts: p, Runners: runners}
}

// sameDesk reports whether two desks have the same parts and runners; nil and empty lists are the same.
func sameDesk(d, other impl.Desk) bool {
	return d.Runners == other.Runners && slices.Equal(d.Parts, other.Parts)
}

// wantLine wants a line on a desk to have a desk behind it, and a reply.
func wantLine(t *testing.T, d impl.Desk, line string, behind impl.Desk, reply string) {
	t.Helper()
	got, said, ok := impl.DeskLine(d, line)
	if !ok || said != reply || !sameDesk(got, behind) {
		t.Errorf("line %.60q on %v: %v %q %v, want %v %q true", line, d, got, said, ok, behind, reply)
	}
}

// wantReply wants a line to leave a desk as it is.
func wantReply(t *testing.T, d impl.Desk, line, reply string) {
	t.Helper()
	wantLine(t, d, line, d, reply)
}

// checkLine wants a line to do what the table says.
func checkLine(t *testing.T, d impl.Desk, line string) {
	t.Helper()
	behind, reply := lineByTable(d, line)
	wantLine(t, d, line, behind, reply)
}

// wantScript wants a script to have the replies, the desk behind it and the lines that fail.
func wantScript(t *testing.T, script string, replies []string, behind impl.Desk, failed []int) {
	t.Helper()
	got, ok := impl.RunScript(script)
	if !ok || !slices.Equal(got, replies) {
		t.Errorf("replies to %.80q: %q %v, want %q true", script, got, ok, replies)
	}
	after, ok := impl.DeskAfter(script)
	if !ok || !sameDesk(after, behind) {
		t.Errorf("desk after %.80q: %v %v, want %v true", script, after, ok, behind)
	}
	numbers, ok := impl.FailedLines(script)
	if !ok || !slices.Equal(numbers, failed) {
		t.Errorf("failed lines of %.80q: %v %v, want %v true", script, numbers, ok, failed)
	}
}

// checkScript wants lines to do, one after the other, what the table says.
func checkScript(t *testing.T, lines []string) {
	t.Helper()
	behind, replies, failed := scriptByTable(lines)
	wantScript(t, scriptOf(lines...), replies, behind, failed)
}

func scriptOf(lines ...string) string {
	script := ""
	for _, line := range lines {
		script += line + "\n"
	}
	return script
}

func wantNoScript(t *testing.T, text string) {
	t.Helper()
	replies, ok := impl.RunScript(text)
	if ok || len(replies) != 0 {
		t.Errorf("replies to %.80q: %q %v, want none false", text, replies, ok)
	}
	after, ok := impl.DeskAfter(text)
	if ok || len(after.Parts) != 0 || after.Runners != 0 {
		t.Errorf("desk after %.80q: %v %v, want none false", text, after, ok)
	}
	numbers, ok := impl.FailedLines(text)
	wantNoList(t, "failed lines", fmt.Sprintf("%.80q", text), numbers, ok)
}

func wantNoLine(t *testing.T, d impl.Desk, line string) {
	t.Helper()
	got, said, ok := impl.DeskLine(d, line)
	if ok || said != "" || len(got.Parts) != 0 || got.Runners != 0 {
		t.Errorf("line %.60q on %.80s: %v %q %v, want none false", line, fmt.Sprint(d), got, said, ok)
	}
}
