package tests

import (
	"fmt"
	"math"
	"reflect"
	"slices"
	"testing"

	"loop.example/g01136/impl"
)

// Promise 11: all arguments are accepted, none is modified, and no memory is shared.

// A call is a function of the program with its other arguments bound; it takes lists and returns all results.
type call struct {
	name string
	run  func(lists [][]int) []any
}

func extremes() []int {
	return []int{math.MinInt, math.MinInt + 1, -1 << 32, -31, -1, 0, 1, 2, 3, 7, 14, 15, 29, 30, 31, 60, 61, 1 << 32, math.MaxInt - 1, math.MaxInt}
}

// results packs the results of a call with at least two of them.
func results[A, B any](a A, b B) []any { return []any{a, b} }

func partCalls() []call {
	return []call{
		{"IsPartition", func(l [][]int) []any { return []any{impl.IsPartition(l[0])} }},
		{"CellsOf", func(l [][]int) []any { return results(impl.CellsOf(l[0])) }},
		{"ConjugateOf", func(l [][]int) []any { return results(impl.ConjugateOf(l[0])) }},
		{"HooksOf", func(l [][]int) []any { return results(impl.HooksOf(l[0])) }},
		{"ContentsOf", func(l [][]int) []any { return results(impl.ContentsOf(l[0])) }},
		{"BorderWord", func(l [][]int) []any { return results(impl.BorderWord(l[0])) }},
		{"CornersOf", func(l [][]int) []any { return results(impl.CornersOf(l[0])) }},
		{"AddableOf", func(l [][]int) []any { return results(impl.AddableOf(l[0])) }},
		{"IsInside", func(l [][]int) []any { return results(impl.IsInside(l[0], l[1])) }},
		{"RankPartition", func(l [][]int) []any { return results(impl.RankPartition(l[0])) }},
		{"PartText", func(l [][]int) []any { return results(impl.PartText(l[0])) }},
	}
}

func partCellCalls(r, c int) []call {
	return []call{
		{fmt.Sprint("HookAt ", r, c), func(l [][]int) []any { return results(impl.HookAt(l[0], r, c)) }},
		{fmt.Sprint("RimHook ", r, c), func(l [][]int) []any { return results(impl.RimHook(l[0], r, c)) }},
		{fmt.Sprint("WithoutRim ", r, c), func(l [][]int) []any {
			left, leg, ok := impl.WithoutRim(l[0], r, c)
			return []any{left, leg, ok}
		}},
	}
}

func partNumberCalls(n int) []call {
	list := []call{
		{fmt.Sprint("CountPartitions ", n), func([][]int) []any { return results(impl.CountPartitions(n)) }},
		{fmt.Sprint("AllPartitions ", n), func([][]int) []any { return results(impl.AllPartitions(n)) }},
	}
	for _, rank := range extremes() {
		list = append(list, call{fmt.Sprint("PartitionWith ", n, rank), func([][]int) []any { return results(impl.PartitionWith(n, rank)) }})
	}
	return list
}

func partStringCalls(s string) []call {
	return []call{
		{fmt.Sprintf("FromBorder %.40q", s), func([][]int) []any { return results(impl.FromBorder(s)) }},
		{fmt.Sprintf("ParsePart %.40q", s), func([][]int) []any { return results(impl.ParsePart(s)) }},
	}
}

const guard = -777777

// guarded returns a copy of a list with numbers in its spare capacity that must stay.
func guarded(list []int) []int {
	room := append(slices.Clone(list), guard, guard, guard, guard)
	return room[:len(list):len(room)]
}

// guardedRows returns guarded copies of lists, with another one in their own spare capacity that must stay.
func guardedRows(lists [][]int) [][]int {
	var room [][]int
	for _, list := range append(slices.Clone(lists), []int{guard}) {
		room = append(room, guarded(list))
	}
	return room[:len(lists):len(room)]
}

// clippedRows returns copies of lists without spare capacity.
func clippedRows(lists [][]int) [][]int {
	var rows [][]int
	for _, list := range lists {
		rows = append(rows, slices.Clip(slices.Clone(list)))
	}
	return slices.Clip(rows)
}

// whole returns a list with all of its capacity.
func whole[E any](list []E) []E {
	return list[:cap(list)]
}

// sameMemory reports whether two guarded lists are the same part of the same memory.
func sameMemory(a, b []int) bool {
	return len(a) == len(b) && cap(a) == cap(b) && &whole(a)[0] == &whole(b)[0]
}

// scribble writes to all memory that a result can reach.
func scribble(result any, with int) {
	switch list := result.(type) {
	case []int:
		for i := range whole(list) {
			whole(list)[i] = with
		}
	case [][]int:
		for k, row := range list {
			scribble(row, with+k)
		}
	}
}

// shared reports whether two lists of a result share memory, each having written to its own.
func shared(result any) bool {
	rows, ok := result.([][]int)
	if !ok {
		return false
	}
	scribble(rows, 1000)
	for k, row := range rows {
		if slices.ContainsFunc(whole(row), func(number int) bool { return number != 1000+k }) {
			return true
		}
	}
	return false
}

func brief(lists [][]int) string {
	text := fmt.Sprint(lists)
	return text[:min(len(text), 100)]
}

// tryCall runs a call several times and reports what the promise forbids.
func tryCall(t *testing.T, do call, lists ...[]int) {
	t.Helper()
	defer func() {
		if cause := recover(); cause != nil {
			t.Errorf("%s of %s: panics: %v", do.name, brief(lists), cause)
		}
	}()
	given := guardedRows(lists)
	rows := slices.Clone(whole(given))
	var before [][]int
	for _, row := range rows {
		before = append(before, slices.Clone(whole(row)))
	}
	first := do.run(given)
	printed := fmt.Sprint(first...)
	if first[len(first)-1] == false {
		wantZero(t, do, first)
	}
	for _, result := range first {
		if shared(result) {
			t.Errorf("%s of %s: lists of the result share memory", do.name, brief(lists))
		}
		scribble(result, 555)
	}
	for k, row := range whole(given) {
		if !sameMemory(row, rows[k]) || !slices.Equal(whole(row), before[k]) {
			t.Errorf("%s of %s: an argument is changed or shared", do.name, brief(lists))
		}
	}
	if again := fmt.Sprint(do.run(given)...); again != printed {
		t.Errorf("%s of %s: %s, and later %s", do.name, brief(lists), printed, again)
	}
	if clipped := fmt.Sprint(do.run(clippedRows(lists))...); clipped != printed {
		t.Errorf("%s of %s: %s, and %s without spare capacity", do.name, brief(lists), printed, clipped)
	}
}

func wantZero(t *testing.T, do call, all []any) {
	t.Helper()
	for _, result := range all {
		value := reflect.ValueOf(result)
		if value.Kind() == reflect.Slice && value.Len() == 0 {
			continue
		}
		if !value.IsZero() {
			t.Errorf("%s: fails, but returns %v", do.name, result)
		}
	}
}

// oddLists returns lists of all kinds, partitions and others.
func oddLists() [][]int {
	lists := append(notPartitions(), nil, []int{})
	for _, number := range extremes() {
		lists = append(lists, []int{number}, []int{number, number}, []int{3, number}, []int{number, 3, 1})
	}
	for n := range 7 {
		lists = append(lists, partitions(n)...)
	}
	return append(lists, []int{30}, ones(30), []int{15, 15}, []int{10, 8, 6, 4, 2}, []int{6, 6, 6, 6, 6})
}

func TestTotalPartLists(t *testing.T) {
	for _, list := range oddLists() {
		for _, other := range [][]int{{}, {30}, {3, 2, 1}, {1, 2}, {math.MaxInt}, list} {
			for _, do := range partCalls() {
				tryCall(t, do, list, other)
				tryCall(t, do, other, list)
			}
		}
	}
}

func TestTotalPartCells(t *testing.T) {
	numbers := extremes()
	for _, list := range oddLists() {
		for _, r := range numbers {
			for _, c := range numbers {
				for _, do := range partCellCalls(r, c) {
					tryCall(t, do, list)
				}
			}
		}
	}
}

func TestTotalPartNumbers(t *testing.T) {
	for _, n := range extremes() {
		for _, do := range partNumberCalls(n) {
			tryCall(t, do)
		}
	}
}

func TestTotalPartTexts(t *testing.T) {
	texts := []string{
		"", "0", "1", "4+2+1", "1+1", "30", "31", "+", "1+2", "R", "U", "RU", "RURURRU", "UR", "RRUUU",
		"\x00", "\xff\xfe", "R\xffU", "9223372036854775808", "-9223372036854775808",
	}
	long := make([]byte, 1<<20)
	for _, letter := range []byte("RU1+0\x00") {
		for i := range long {
			long[i] = letter
		}
		for _, size := range []int{29, 30, 31, 58, 59, 60, 61, 62, len(long)} {
			texts = append(texts, string(long[:size]))
		}
	}
	for _, text := range texts {
		for _, do := range partStringCalls(text) {
			tryCall(t, do)
		}
	}
}

// The same slice may be both arguments.
func TestTotalPartOneListTwice(t *testing.T) {
	p := guarded([]int{4, 2, 1})
	inside, ok := impl.IsInside(p, p)
	wantValue(t, "inside itself", p, inside, true, ok)
	if !slices.Equal(whole(p)[:7], []int{4, 2, 1, guard, guard, guard, guard}) {
		t.Error("an argument is changed", whole(p))
	}
}
