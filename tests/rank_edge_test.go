package tests

import (
	"fmt"
	"math"
	"slices"
	"testing"

	"loop.example/g01136/impl"
)

// Promise 9: the edges that the chapter names or that its limits make, and invalid arguments.

func TestRankLimits(t *testing.T) {
	wantValue(t, "limit", "numbers of partitions", impl.MaxNumbered, 200, true)
	wantValue(t, "limit", "spreads", impl.MaxSpread, 30, true)
}

func TestRankPentagonalEdges(t *testing.T) {
	for _, of := range []struct{ k, number int }{
		{0, 0}, {1, 1}, {-1, 2}, {2, 5}, {-2, 7}, {3, 12}, {-3, 15}, {4, 22}, {-4, 26}, {999, 1496502}, {-999, 1497501}, {1000, 1499500}, {-1000, 1500500},
	} {
		number, ok := impl.PentagonalAt(of.k)
		wantValue(t, "pentagonal number", of.k, number, of.number, ok)
	}
	for _, k := range []int{1001, -1001, 1002, -1002, 1 << 31, 1 << 32, -1 << 32, 1<<32 + 1, 1 << 62, math.MaxInt - 1, math.MaxInt, math.MinInt + 1, math.MinInt} {
		number, ok := impl.PentagonalAt(k)
		wantNoValue(t, "pentagonal number", k, number, ok)
	}
}

func TestRankNumberEdges(t *testing.T) {
	for _, of := range []struct{ n, all, different int }{
		{0, 1, 1}, {1, 1, 1}, {2, 2, 1}, {3, 3, 2}, {4, 5, 2}, {5, 7, 3}, {6, 11, 4}, {7, 15, 5}, {8, 22, 6}, {30, 5604, 296}, {31, 6842, 340}, {32, 8349, 390}, {60, 966467, 10880},
		{100, 190569292, 444793}, {199, 3646072432125, 458482688}, {200, 3972999029388, 487067746},
	} {
		number, ok := impl.PartitionNumber(of.n)
		wantValue(t, "number of partitions", of.n, number, of.all, ok)
		list, ok := impl.PartitionNumbers(of.n)
		wantValue(t, "length of the list of numbers", of.n, len(list), of.n+1, ok)
		wantValue(t, "last one of the list of numbers", of.n, list[of.n], of.all, ok)
		different, ok := impl.DifferentNumber(of.n)
		wantValue(t, "number of those with different parts", of.n, different, of.different, ok)
		odd, ok := impl.OddNumber(of.n)
		wantValue(t, "number of those with odd parts", of.n, odd, of.different, ok)
	}
	for n, want := range [][]int{{1}, {1, 1}, {1, 1, 2}, {1, 1, 2, 3}, {1, 1, 2, 3, 5}} {
		list, ok := impl.PartitionNumbers(n)
		wantList(t, "numbers of partitions", n, list, want, ok)
	}
	for _, n := range []int{impl.MaxNumbered + 1, impl.MaxNumbered + 2, 1000, 1 << 32, math.MaxInt - 1, math.MaxInt, -1, -2, -200, -1 << 32, math.MinInt + 1, math.MinInt} {
		number, ok := impl.PartitionNumber(n)
		wantNoValue(t, "number of partitions", n, number, ok)
		list, ok := impl.PartitionNumbers(n)
		wantNoList(t, "numbers of partitions", n, list, ok)
		different, ok := impl.DifferentNumber(n)
		wantNoValue(t, "number of those with different parts", n, different, ok)
		odd, ok := impl.OddNumber(n)
		wantNoValue(t, "number of those with odd parts", n, odd, ok)
	}
}

// checkPair wants a partition and another one as pairs of each other.
func checkPair(t *testing.T, p, want []int) {
	t.Helper()
	pair, ok := impl.PairOf(p)
	wantList(t, "pair", p, pair, want, ok)
	pair, ok = impl.PairOf(want)
	wantList(t, "pair", want, pair, p, ok)
}

func TestRankPairEdges(t *testing.T) {
	for _, of := range []struct{ p, pair []int }{
		// A single part.
		{[]int{3}, []int{2, 1}}, {[]int{4}, []int{3, 1}}, {[]int{5}, []int{4, 1}}, {[]int{29}, []int{28, 1}}, {[]int{30}, []int{29, 1}},
		// A last part that is less than the slope.
		{[]int{4, 3, 1}, []int{5, 3}}, {[]int{7, 6, 5, 2}, []int{8, 7, 5}}, {[]int{9, 8, 7, 1}, []int{10, 8, 7}}, {[]int{6, 5, 4, 2, 1}, []int{7, 5, 4, 2}},
		// One that is equal to it.
		{[]int{8, 1}, []int{9}}, {[]int{9, 7, 1}, []int{10, 7}}, {[]int{6, 3, 1}, []int{7, 3}}, {[]int{5, 4, 2}, []int{6, 5}}, {[]int{7, 6, 5, 3}, []int{8, 7, 6}}, {[]int{10, 9, 8, 3}, []int{11, 10, 9}},
		// One that is greater.
		{[]int{7, 5}, []int{6, 5, 1}}, {[]int{9, 4}, []int{8, 4, 1}}, {[]int{4, 2}, []int{3, 2, 1}}, {[]int{8, 7, 3}, []int{7, 6, 3, 2}}, {[]int{16, 14}, []int{15, 14, 1}}, {[]int{9, 8, 7, 5}, []int{8, 7, 6, 5, 3}},
		// A slope that is the number of parts.
		{[]int{3, 2, 1}, []int{4, 2}}, {[]int{4, 3, 2, 1}, []int{5, 3, 2}}, {[]int{5, 4, 3, 2}, []int{6, 5, 3}}, {[]int{6, 5, 4, 3, 2, 1}, []int{7, 5, 4, 3, 2}},
		{[]int{5, 4}, []int{4, 3, 2}}, {[]int{6, 5}, []int{5, 4, 2}}, {[]int{7, 6, 5}, []int{6, 5, 4, 3}}, {[]int{9, 8, 7, 6}, []int{8, 7, 6, 5, 4}},
	} {
		checkPair(t, of.p, of.pair)
	}
}

func TestRankWithoutPair(t *testing.T) {
	for _, p := range [][]int{{1}, {2}, {3, 2}, {4, 3}, {5, 4, 3}, {6, 5, 4}, {7, 6, 5, 4}, {8, 7, 6, 5}} {
		pair, ok := impl.PairOf(p)
		wantNoList(t, "pair", p, pair, ok)
	}
	for _, p := range [][]int{nil, {}} {
		pair, ok := impl.PairOf(p)
		wantNoList(t, "pair", "no cells", pair, ok)
	}
	for _, p := range [][]int{{1, 1}, {2, 2}, {2, 1, 1}, {3, 3, 1}, {4, 3, 3}, {4, 3, 3, 1}, {5, 5}, {5, 4, 1, 1}, {15, 15}, {28, 1, 1}, {10, 10, 10}, ones(3), ones(30)} {
		pair, ok := impl.PairOf(p)
		wantNoList(t, "pair", p, pair, ok)
	}
	for _, p := range append(notPartitions(), []int{1, 3}, []int{3, 4, 1}, []int{4, 3, 0}, []int{4, 3, 1, 0}, []int{4, 3, -1}, []int{30, 1}, []int{9, 8, 7, 6, 1}, []int{3, math.MinInt}, []int{math.MaxInt, math.MaxInt - 1}, []int{math.MaxInt, 3}) {
		pair, ok := impl.PairOf(p)
		wantNoList(t, "pair", brief([][]int{p}), pair, ok)
	}
}

func TestRankSignedEdges(t *testing.T) {
	for n, want := range []int{1, -1, -1, 0, 0, 1, 0, 1, 0, 0, 0, 0, -1, 0, 0, -1, 0, 0, 0, 0, 0, 0, 1, 0, 0, 0, 1, 0, 0, 0, 0} {
		number, ok := impl.SignedNumber(n)
		wantValue(t, "signed number", n, number, want, ok)
	}
	for _, n := range []int{impl.MaxSpread + 1, 35, 40, 200, 1 << 32, 1<<32 + 5, math.MaxInt, -1, -2, -5, -30, math.MinInt, math.MinInt + 1} {
		number, ok := impl.SignedNumber(n)
		wantNoValue(t, "signed number", n, number, ok)
	}
}

func TestRankSquareEdges(t *testing.T) {
	for _, of := range []struct {
		p      []int
		square int
	}{
		{nil, 0}, {[]int{}, 0}, {[]int{1}, 1}, {[]int{2}, 1}, {[]int{30}, 1}, {ones(2), 1}, {ones(30), 1}, {[]int{15, 1}, 1},
		{[]int{2, 2}, 2}, {[]int{2, 1}, 1}, {[]int{3, 3, 3}, 3}, {[]int{3, 3, 2}, 2}, {[]int{4, 4, 4, 4}, 4}, {[]int{4, 4, 4, 3}, 3}, {slices.Repeat([]int{5}, 5), 5}, {[]int{5, 5, 5, 5, 4}, 4}, {slices.Repeat([]int{5}, 6), 5}, {slices.Repeat([]int{6}, 5), 5},
		{[]int{26, 4}, 2}, {[]int{15, 15}, 2}, {slices.Repeat([]int{2}, 15), 2}, {[]int{10, 10, 10}, 3}, {slices.Repeat([]int{3}, 10), 3}, {[]int{8, 7, 6, 5, 4}, 4}, {[]int{29, 1}, 1}, {[]int{4, 2, 1}, 2},
	} {
		square, ok := impl.SquareOf(of.p)
		wantValue(t, "square", of.p, square, of.square, ok)
	}
}

func TestRankRankEdges(t *testing.T) {
	for _, of := range []struct {
		p    []int
		rank int
	}{
		{[]int{1}, 0}, {[]int{2}, 1}, {[]int{30}, 29}, {ones(2), -1}, {ones(30), -29}, {[]int{2, 1}, 0}, {[]int{4, 2, 1}, 1}, {[]int{3, 2, 1, 1}, -1}, {slices.Repeat([]int{5}, 5), 0}, {slices.Repeat([]int{5}, 6), -1}, {slices.Repeat([]int{6}, 5), 1}, {[]int{29, 1}, 27}, {[]int{2, 2}, 0}, {[]int{15, 15}, 13},
	} {
		rank, ok := impl.RankOf(of.p)
		wantValue(t, "rank", of.p, rank, of.rank, ok)
	}
}

func TestRankCrankEdges(t *testing.T) {
	for _, of := range []struct {
		p     []int
		crank int
	}{
		// No part 1.
		{[]int{2}, 2}, {[]int{30}, 30}, {[]int{2, 2}, 2}, {[]int{5, 3, 2}, 5}, {[]int{15, 15}, 15}, {slices.Repeat([]int{2}, 15), 2}, {[]int{28, 2}, 28},
		// One.
		{[]int{2, 1}, 0}, {[]int{29, 1}, 0}, {[]int{3, 2, 1}, 1}, {[]int{4, 2, 1}, 1}, {append(slices.Repeat([]int{2}, 14), 1), 13}, {[]int{5, 5, 5, 5, 1}, 3},
		// More.
		{[]int{2, 1, 1}, -2}, {[]int{3, 1, 1}, -1}, {[]int{3, 3, 1, 1}, 0}, {[]int{4, 3, 3, 1, 1}, 1}, {[]int{2, 2, 2, 1, 1}, -2}, {[]int{3, 3, 1, 1, 1}, -3}, {[]int{4, 3, 1, 1, 1}, -2}, {append([]int{16}, ones(14)...), -13}, {append([]int{15}, ones(15)...), -15}, {append([]int{28}, ones(2)...), -1},
		// Nothing but parts 1.
		{[]int{1}, -1}, {ones(2), -2}, {ones(3), -3}, {ones(29), -29}, {ones(30), -30},
	} {
		crank, ok := impl.CrankOf(of.p)
		wantValue(t, "crank", of.p, crank, of.crank, ok)
	}
}

func TestRankNoCellsOrNoPartitions(t *testing.T) {
	for _, p := range append(notPartitions(), nil, []int{}) {
		from := brief([][]int{p})
		rank, ok := impl.RankOf(p)
		wantNoValue(t, "rank", from, rank, ok)
		crank, ok := impl.CrankOf(p)
		wantNoValue(t, "crank", from, crank, ok)
		if len(p) > 0 {
			square, ok := impl.SquareOf(p)
			wantNoValue(t, "square", from, square, ok)
		}
	}
	for _, p := range [][]int{{2, 1, 0}, {4, 1, 2}, {1, 1, 2}, {31}, {29, 1, 1}, ones(31), {2, -1}, {1, 0}, {math.MaxInt, 1}} {
		rank, ok := impl.RankOf(p)
		wantNoValue(t, "rank", p, rank, ok)
		crank, ok := impl.CrankOf(p)
		wantNoValue(t, "crank", p, crank, ok)
		square, ok := impl.SquareOf(p)
		wantNoValue(t, "square", p, square, ok)
	}
}

func TestRankSpreadEdges(t *testing.T) {
	for _, of := range []struct {
		n, m          int
		ranks, cranks []int
	}{
		{1, 2, []int{1, 0}, []int{0, 1}}, {1, 3, []int{1, 0, 0}, []int{0, 0, 1}}, {1, 11, []int{1, 0, 0, 0, 0, 0, 0, 0, 0, 0, 0}, []int{0, 0, 0, 0, 0, 0, 0, 0, 0, 0, 1}},
		{2, 2, []int{0, 2}, []int{2, 0}}, {2, 5, []int{0, 1, 0, 0, 1}, []int{0, 0, 1, 1, 0}}, {2, 11, []int{0, 1, 0, 0, 0, 0, 0, 0, 0, 0, 1}, []int{0, 0, 1, 0, 0, 0, 0, 0, 0, 1, 0}},
		{3, 2, []int{3, 0}, []int{1, 2}}, {3, 4, []int{1, 0, 2, 0}, []int{1, 1, 0, 1}},
		{4, 2, []int{1, 4}, []int{5, 0}}, {4, 11, []int{1, 1, 0, 1, 0, 0, 0, 0, 1, 0, 1}, []int{1, 0, 1, 0, 1, 0, 0, 1, 0, 1, 0}},
		{5, 7, []int{1, 1, 1, 1, 1, 1, 1}, []int{1, 1, 1, 1, 1, 1, 1}}, {6, 11, []int{1, 2, 1, 1, 0, 1, 1, 0, 1, 1, 2}, []int{1, 1, 1, 1, 1, 1, 1, 1, 1, 1, 1}},
		{30, 2, []int{2750, 2854}, []int{2852, 2752}}, {30, 5, []int{1120, 1122, 1120, 1120, 1122}, []int{1124, 1120, 1120, 1120, 1120}},
	} {
		ranks, ok := impl.RankSpread(of.n, of.m)
		wantList(t, fmt.Sprint("ranks by ", of.m), of.n, ranks, of.ranks, ok)
		cranks, ok := impl.CrankSpread(of.n, of.m)
		wantList(t, fmt.Sprint("cranks by ", of.m), of.n, cranks, of.cranks, ok)
	}
	ranks, ok := impl.RankSpread(30, 11)
	wantList(t, "ranks by 11", 30, ranks, []int{516, 517, 512, 509, 504, 502, 502, 504, 509, 512, 517}, ok)
}

func TestRankSpreadsBeyond(t *testing.T) {
	for _, n := range []int{impl.MaxSpread + 1, 34, 200, 1 << 32, 1<<32 + 4, math.MaxInt, 0, -1, -4, math.MinInt, math.MinInt + 1} {
		for _, m := range []int{2, 5, 11, 1, 12, 0} {
			wantNoSpreads(t, n, m)
		}
		for _, r := range []int{0, 1, -1, 30, -30} {
			number, ok := impl.RankCountAt(n, r)
			wantNoValue(t, fmt.Sprint("number with the rank ", r), n, number, ok)
		}
	}
	for _, m := range []int{1, 12, 13, 0, -1, -2, -5, 30, 1 << 32, 1<<32 + 5, math.MaxInt, math.MinInt, math.MinInt + 2} {
		for _, n := range []int{1, 2, 4, 12, 30} {
			wantNoSpreads(t, n, m)
		}
	}
}

func wantNoSpreads(t *testing.T, n, m int) {
	t.Helper()
	ranks, ok := impl.RankSpread(n, m)
	wantNoList(t, fmt.Sprint("ranks by ", m), n, ranks, ok)
	cranks, ok := impl.CrankSpread(n, m)
	wantNoList(t, fmt.Sprint("cranks by ", m), n, cranks, ok)
}

func TestRankCountEdges(t *testing.T) {
	for _, of := range []struct{ n, r, number int }{
		{1, 0, 1}, {1, 1, 0}, {1, -1, 0}, {1, 30, 0}, {1, -30, 0},
		{2, 0, 0}, {2, 1, 1}, {2, -1, 1}, {2, 2, 0},
		{4, 3, 1}, {4, 2, 0}, {4, 1, 1}, {4, 0, 1}, {4, -1, 1}, {4, -2, 0}, {4, -3, 1}, {4, 4, 0},
		{6, -1, 2}, {6, 1, 2}, {6, 0, 1}, {6, 4, 0},
		{30, 0, 336}, {30, 1, 340}, {30, -1, 340}, {30, 2, 318}, {30, 27, 1}, {30, 28, 0}, {30, -28, 0}, {30, 29, 1}, {30, -29, 1}, {30, 30, 0}, {30, -30, 0}, {29, 28, 1}, {29, 29, 0}, {29, -28, 1}, {29, -30, 0},
	} {
		number, ok := impl.RankCountAt(of.n, of.r)
		wantValue(t, fmt.Sprint("number with the rank ", of.r), of.n, number, of.number, ok)
	}
	for _, n := range []int{1, 4, 29, 30} {
		for _, r := range []int{31, -31, 32, 60, 1 << 32, -1 << 32, math.MaxInt, math.MinInt, math.MinInt + 1} {
			number, ok := impl.RankCountAt(n, r)
			wantNoValue(t, fmt.Sprint("number with the rank ", r), n, number, ok)
		}
	}
}
