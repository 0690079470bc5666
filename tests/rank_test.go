package tests

import (
	"fmt"
	"slices"
	"testing"

	"loop.example/g01136/impl"
)

// Promise 9: all numbers up to the limits, all partitions and all remainders, against the model.

func TestRankExample(t *testing.T) {
	var ranks []int
	for _, p := range partitions(4) {
		rank, ok := impl.RankOf(p)
		wantValue(t, "rank", p, rank, rankByHook(p), ok)
		ranks = append(ranks, rank)
	}
	wantList(t, "ranks", 4, ranks, []int{3, 1, 0, -1, -3}, true)
	number, ok := impl.PartitionNumber(4)
	wantValue(t, "number of partitions", 4, number, 5, ok)
	spread, ok := impl.RankSpread(4, 5)
	wantList(t, "ranks by 5", 4, spread, []int{1, 1, 1, 1, 1}, ok)
	pair, ok := impl.PairOf([]int{4, 3, 1})
	wantList(t, "pair", "4 3 1", pair, []int{5, 3}, ok)
	pair, ok = impl.PairOf([]int{2})
	wantNoList(t, "pair", "2", pair, ok)
}

func TestRankPentagonal(t *testing.T) {
	for k := range 1001 {
		up, down := pentagons(k)
		number, ok := impl.PentagonalAt(k)
		wantValue(t, "pentagonal number", k, number, up, ok)
		number, ok = impl.PentagonalAt(-k)
		wantValue(t, "pentagonal number", -k, number, down, ok)
	}
}

func TestRankNumbers(t *testing.T) {
	table := countsByParts(impl.MaxNumbered)
	var numbers []int
	for n := 0; n <= impl.MaxNumbered; n++ {
		numbers = append(numbers, allByParts(table, n))
		number, ok := impl.PartitionNumber(n)
		wantValue(t, "number of partitions", n, number, numbers[n], ok)
		list, ok := impl.PartitionNumbers(n)
		wantList(t, "numbers of partitions", n, list, numbers, ok)
		different, ok := impl.DifferentNumber(n)
		wantValue(t, "number of those with different parts", n, different, differentByParts(table, n), ok)
		odd, ok := impl.OddNumber(n)
		wantValue(t, "number of those with odd parts", n, odd, oddByParts(table, n), ok)
		wantValue(t, "those with odd and with different parts", n, odd, different, ok)
	}
}

// Up to MaxCells there are lists of them, and counts of the chapters 1 and 7.
func TestRankNumbersOfListed(t *testing.T) {
	for n := 0; n <= impl.MaxCells; n++ {
		number, ok := impl.PartitionNumber(n)
		wantValue(t, "number of partitions", n, number, len(partitions(n)), ok)
		counted, ok := impl.CountPartitions(n)
		wantValue(t, "number of partitions", n, number, counted, ok)
		different, ok := impl.DifferentNumber(n)
		wantValue(t, "number of those with different parts", n, different, len(strictPartitions(n)), ok)
		counted, ok = impl.CountStrict(n)
		wantValue(t, "number of those with different parts", n, different, counted, ok)
		odds := 0
		for _, p := range partitions(n) {
			if areOdd(p) {
				odds++
			}
		}
		odd, ok := impl.OddNumber(n)
		wantValue(t, "number of those with odd parts", n, odd, odds, ok)
	}
}

// With the signs of all k, the numbers of n less the pentagonal ones have the sum 0.
func TestRankRecurrence(t *testing.T) {
	for n := 1; n <= impl.MaxNumbered; n++ {
		sum := 0
		for k := -n; k <= n; k++ {
			step, ok := impl.PentagonalAt(k)
			if step > n {
				continue
			}
			number, ok2 := impl.PartitionNumber(n - step)
			wantValue(t, "whether there is a number", n-step, ok && ok2, true, true)
			sum += evenSign(k) * number
		}
		wantValue(t, "sum with signs", n, sum, 0, true)
	}
}

func TestRankPairs(t *testing.T) {
	eachStrict(impl.MaxCells, func(p []int) {
		want, can := pairByCells(p)
		pair, ok := impl.PairOf(p)
		if !can {
			wantNoList(t, "pair", p, pair, ok)
			return
		}
		wantList(t, "pair", p, pair, want, ok)
		wantValue(t, "whether the pair has one part more or less", p, len(pair) == len(p)+1 || len(pair) == len(p)-1, true, ok)
		again, ok := impl.PairOf(pair)
		wantList(t, "pair of the pair", p, again, p, ok)
	})
}

// All partitions there are: without a pair are those with equal parts, and those with pentagonal numbers of cells that the model tells.
func TestRankNoPairs(t *testing.T) {
	for n := 0; n <= impl.MaxCells; n++ {
		var alone [][]int
		for _, p := range partitions(n) {
			pair, ok := impl.PairOf(p)
			if !isStrictBySet(p) {
				wantNoList(t, "pair", p, pair, ok)
			} else if !ok {
				alone = append(alone, p)
			}
		}
		wantRows(t, "partitions without a pair", n, alone, noPairs(n), true)
	}
}

func TestRankSigned(t *testing.T) {
	for n := 0; n <= impl.MaxSpread; n++ {
		number, ok := impl.SignedNumber(n)
		sum := 0
		for _, p := range strictPartitions(n) {
			sum += evenSign(len(p))
		}
		wantValue(t, "signed number", n, number, sum, ok)
		wantValue(t, "signed number", n, number, signByPentagons(n), ok)
	}
}

func TestRankSquares(t *testing.T) {
	for n := 0; n <= impl.MaxCells; n++ {
		for _, p := range partitions(n) {
			square, ok := impl.SquareOf(p)
			wantValue(t, "square", p, square, squareByCells(p), ok)
			turnedSquare, ok := impl.SquareOf(turned(p))
			wantValue(t, "square of the conjugate", p, turnedSquare, square, ok)
		}
	}
}

func TestRankRanksAndCranks(t *testing.T) {
	for n := 1; n <= impl.MaxCells; n++ {
		for _, p := range partitions(n) {
			rank, ok := impl.RankOf(p)
			wantValue(t, "rank", p, rank, rankByHook(p), ok)
			turnedRank, ok := impl.RankOf(turned(p))
			wantValue(t, "rank of the conjugate", p, turnedRank, -rank, ok)
			crank, ok := impl.CrankOf(p)
			wantValue(t, "crank", p, crank, crankByCounts(p), ok)
		}
	}
}

func TestRankSpreads(t *testing.T) {
	for n := 1; n <= impl.MaxSpread; n++ {
		number, _ := impl.PartitionNumber(n)
		for m := 2; m <= 11; m++ {
			ranks, ok := impl.RankSpread(n, m)
			wantList(t, fmt.Sprint("ranks by ", m), n, ranks, remaindersByList(n, m, rankByCounts), ok)
			wantValue(t, fmt.Sprint("number of ranks by ", m), n, sumOf(ranks), number, ok)
			cranks, ok := impl.CrankSpread(n, m)
			wantList(t, fmt.Sprint("cranks by ", m), n, cranks, remaindersByList(n, m, crankByCounts), ok)
			wantValue(t, fmt.Sprint("number of cranks by ", m), n, sumOf(cranks), number, ok)
		}
	}
}

// All counts by the series, and those of the program's own ranks and cranks.
func TestRankSpreadsBySeries(t *testing.T) {
	table := countsByParts(impl.MaxSpread)
	for n := 1; n <= impl.MaxSpread; n++ {
		for m := 2; m <= 11; m++ {
			byRanks, byCranks := make([]int, m), make([]int, m)
			for r := -n; r <= n; r++ {
				byRanks[mod(r, m)] += ranksBySeries(table, n, r)
				byCranks[mod(r, m)] += cranksBySeries(table, n, r)
			}
			ranks, ok := impl.RankSpread(n, m)
			wantList(t, fmt.Sprint("ranks by ", m), n, ranks, byRanks, ok)
			if n >= 2 {
				cranks, ok := impl.CrankSpread(n, m)
				wantList(t, fmt.Sprint("cranks by ", m), n, cranks, byCranks, ok)
			}
		}
	}
}

// Ranks of 5 k + 4 and of 7 k + 5 cells are spread evenly by 5 and by 7; cranks are, too, and those of 11 k + 6 by 11.
func TestRankEvenSpreads(t *testing.T) {
	for _, of := range []struct {
		m, first int
		spreads  []func(n, m int) ([]int, bool)
	}{
		{5, 4, []func(n, m int) ([]int, bool){impl.RankSpread, impl.CrankSpread}},
		{7, 5, []func(n, m int) ([]int, bool){impl.RankSpread, impl.CrankSpread}},
		{11, 6, []func(n, m int) ([]int, bool){impl.CrankSpread}},
	} {
		for n := of.first; n <= impl.MaxSpread; n += of.m {
			number, _ := impl.PartitionNumber(n)
			for k, spread := range of.spreads {
				list, ok := spread(n, of.m)
				wantList(t, fmt.Sprint("even spread ", k, " by ", of.m), n, list, slices.Repeat([]int{number / of.m}, of.m), ok)
				wantValue(t, fmt.Sprint("rest by ", of.m), n, number%of.m, 0, ok)
			}
		}
	}
	// Ranks by 11 are not.
	ranks, ok := impl.RankSpread(6, 11)
	wantList(t, "ranks by 11", 6, ranks, []int{1, 2, 1, 1, 0, 1, 1, 0, 1, 1, 2}, ok)
}

func TestRankCounts(t *testing.T) {
	table := countsByParts(impl.MaxSpread)
	for n := 1; n <= impl.MaxSpread; n++ {
		counts := map[int]int{}
		for _, p := range partitions(n) {
			counts[rankByCounts(p)]++
		}
		for r := -impl.MaxSpread; r <= impl.MaxSpread; r++ {
			number, ok := impl.RankCountAt(n, r)
			wantValue(t, fmt.Sprint("number with the rank ", r), n, number, counts[r], ok)
			wantValue(t, fmt.Sprint("number with the rank ", r), n, number, ranksBySeries(table, n, r), ok)
			opposite, ok := impl.RankCountAt(n, -r)
			wantValue(t, fmt.Sprint("number with the rank ", -r), n, opposite, number, ok)
		}
	}
}
