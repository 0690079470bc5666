package tests

import (
	"fmt"
	"math"
	"slices"
	"testing"

	"loop.example/g01136/impl"
)

// Promise 11 for recurrences, ranks and cranks.

// rankCalls take one list.
func rankCalls() []call {
	return []call{
		{"PairOf", func(l [][]int) []any { return results(impl.PairOf(l[0])) }},
		{"SquareOf", func(l [][]int) []any { return results(impl.SquareOf(l[0])) }},
		{"RankOf", func(l [][]int) []any { return results(impl.RankOf(l[0])) }},
		{"CrankOf", func(l [][]int) []any { return results(impl.CrankOf(l[0])) }},
	}
}

func rankNumberCalls(n int) []call {
	name := func(function string) string { return fmt.Sprint(function, " ", n) }
	return []call{
		{name("PentagonalAt"), func([][]int) []any { return results(impl.PentagonalAt(n)) }},
		{name("PartitionNumber"), func([][]int) []any { return results(impl.PartitionNumber(n)) }},
		{name("PartitionNumbers"), func([][]int) []any { return results(impl.PartitionNumbers(n)) }},
		{name("DifferentNumber"), func([][]int) []any { return results(impl.DifferentNumber(n)) }},
		{name("OddNumber"), func([][]int) []any { return results(impl.OddNumber(n)) }},
		{name("SignedNumber"), func([][]int) []any { return results(impl.SignedNumber(n)) }},
	}
}

func spreadCalls(n, other int) []call {
	name := func(function string) string { return fmt.Sprint(function, " ", n, " ", other) }
	return []call{
		{name("RankSpread"), func([][]int) []any { return results(impl.RankSpread(n, other)) }},
		{name("CrankSpread"), func([][]int) []any { return results(impl.CrankSpread(n, other)) }},
		{name("RankCountAt"), func([][]int) []any { return results(impl.RankCountAt(n, other)) }},
	}
}

// rankInputs returns lists of all kinds: partitions with different parts, with a pair and without one, and others.
func rankInputs() [][]int {
	lists := oddLists()
	eachStrict(11, func(p []int) { lists = append(lists, p) })
	for _, number := range extremes() {
		lists = append(lists, []int{4, 3, number}, []int{number, 3, 1}, []int{number, number - 1}, []int{number - 1, number})
	}
	return append(lists, []int{5, 4, 3}, []int{6, 5, 4}, []int{8, 7, 6, 5}, []int{9, 8, 7, 6}, []int{9, 8, 7, 5, 1}, []int{7, 6, 5, 4, 3, 2, 1}, append([]int{15}, ones(15)...), upTo(100000), fallingFrom(100000, 100000))
}

func TestTotalRankLists(t *testing.T) {
	for _, list := range rankInputs() {
		for _, do := range rankCalls() {
			tryCall(t, do, list)
		}
	}
}

func TestTotalRankNumbers(t *testing.T) {
	for _, n := range slices.Concat(extremes(), []int{4, 5, 100, 199, 200, 201, 1000, 1001, -1000, -1001, math.MaxInt / 3, math.MinInt / 3}) {
		for _, do := range rankNumberCalls(n) {
			tryCall(t, do)
		}
	}
}

func TestTotalRankSpreads(t *testing.T) {
	for _, n := range slices.Concat(extremes(), []int{4, 5, 10}) {
		for _, other := range slices.Concat(extremes(), []int{-30, -2, 10, 11, 12}) {
			for _, do := range spreadCalls(n, other) {
				tryCall(t, do)
			}
		}
	}
}

// Results of earlier calls may be written to.
func TestTotalRankResultsApart(t *testing.T) {
	for range 2 {
		for _, of := range [][][]int{{{4, 3, 1}, {5, 3}}, {{5, 3}, {4, 3, 1}}, {{9, 1}, {10}}} {
			p := guarded(of[0])
			pair, ok := impl.PairOf(p)
			wantList(t, "pair", p, pair, of[1], ok)
			scribble(pair, 555)
			if !slices.Equal(whole(p), whole(guarded(of[0]))) {
				t.Error("an argument is changed or shared with its pair", whole(p))
			}
		}
		numbers, ok := impl.PartitionNumbers(5)
		wantList(t, "numbers of partitions", 5, numbers, []int{1, 1, 2, 3, 5, 7}, ok)
		scribble(numbers, 555)
		ranks, ok := impl.RankSpread(4, 5)
		wantList(t, "ranks by 5", 4, ranks, ones(5), ok)
		scribble(ranks, 555)
		cranks, ok := impl.CrankSpread(4, 2)
		wantList(t, "cranks by 2", 4, cranks, []int{5, 0}, ok)
		scribble(cranks, 555)
	}
}
