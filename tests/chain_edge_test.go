package tests

import (
	"fmt"
	"math"
	"slices"
	"testing"

	"loop.example/g01136/impl"
)

// Promise 6: the edges that the chapter names or that its limits make, and invalid arguments.

func TestChainLimits(t *testing.T) {
	if impl.MaxChained != 12 || impl.MaxCharacter != 8 {
		t.Error("limits", impl.MaxChained, impl.MaxCharacter)
	}
}

func TestChainNothing(t *testing.T) {
	for _, none := range [][]int{nil, {}} {
		number, ok := impl.CountChains(none)
		wantValue(t, "number of chains", none, number, 1, ok)
		number, ok = impl.CountBetween(none, none)
		wantValue(t, "ways from no cells", none, number, 1, ok)
		number, ok = impl.CountBetween(none, []int{2, 1})
		wantValue(t, "ways from no cells", "2 1", number, 2, ok)
		number, ok = impl.CountBetween([]int{1}, none)
		wantValue(t, "ways from 1", none, number, 0, ok)
		isChain, ok := impl.IsChain(none)
		wantValue(t, "whether chain", none, isChain, true, ok)
		shape, ok := impl.ShapeOf(none)
		wantList(t, "shape", none, shape, nil, ok)
		number, ok = impl.RankChain(none)
		wantValue(t, "rank", none, number, 0, ok)
		chain, ok := impl.ChainWith(none, 0)
		wantList(t, "chain with rank 0", none, chain, nil, ok)
		chain, ok = impl.ChainWith(none, 1)
		wantNoList(t, "chain with rank 1", none, chain, ok)
		number, ok = impl.CharacterOf(none, none)
		wantValue(t, "character without cycles", none, number, 1, ok)
		row, ok := impl.CharacterRow(none)
		wantList(t, "characters", none, row, []int{1}, ok)
		checkClass(t, none, 1, 1, 1)
		number, ok = impl.RowProduct(none, none)
		wantValue(t, "product of rows", none, number, 1, ok)
		number, ok = impl.ColumnProduct(none, none)
		wantValue(t, "product of columns", none, number, 1, ok)
		wantNoCharacter(t, none, []int{1})
		wantNoCharacter(t, []int{1}, none)
		wantNoProducts(t, none, []int{1})
	}
	number, ok := impl.SquaresOf(0)
	wantValue(t, "sum of squares", 0, number, 1, ok)
	table, ok := impl.CharacterTable(0)
	wantRows(t, "table", 0, table, [][]int{{1}}, ok)
}

func wantNoCharacter(t *testing.T, p, cycles []int) {
	t.Helper()
	number, ok := impl.CharacterOf(p, cycles)
	wantNoValue(t, "character at", brief([][]int{p, cycles}), number, ok)
}

// wantNoProducts calls both products, in both orders.
func wantNoProducts(t *testing.T, a, b []int) {
	t.Helper()
	for _, lists := range [][][]int{{a, b}, {b, a}} {
		number, ok := impl.RowProduct(lists[0], lists[1])
		wantNoValue(t, "product of rows", brief(lists), number, ok)
		number, ok = impl.ColumnProduct(lists[0], lists[1])
		wantNoValue(t, "product of columns", brief(lists), number, ok)
	}
}

func TestChainOneRowOrColumn(t *testing.T) {
	for n := 1; n <= 20; n++ {
		for _, p := range [][]int{{n}, ones(n)} {
			number, ok := impl.CountChains(p)
			wantValue(t, "number of chains", p, number, 1, ok)
		}
	}
	for n := 1; n <= impl.MaxChained; n++ {
		for _, of := range []struct{ p, rows []int }{{[]int{n}, make([]int, n)}, {ones(n), upTo(n)}} {
			isChain, ok := impl.IsChain(of.rows)
			wantValue(t, "whether chain", of.rows, isChain, true, ok)
			shape, ok := impl.ShapeOf(of.rows)
			wantList(t, "shape", of.rows, shape, of.p, ok)
			rank, ok := impl.RankChain(of.rows)
			wantValue(t, "rank", of.rows, rank, 0, ok)
			chain, ok := impl.ChainWith(of.p, 0)
			wantList(t, "chain with rank 0", of.p, chain, of.rows, ok)
			chain, ok = impl.ChainWith(of.p, 1)
			wantNoList(t, "chain with rank 1", of.p, chain, ok)
		}
		for k := range n + 1 {
			number, ok := impl.CountBetween(ones(k), ones(n))
			wantValue(t, fmt.Sprint("ways from a column of ", k), n, number, 1, ok)
			number, ok = impl.CountBetween(ones(k), []int{n})
			wantValue(t, fmt.Sprint("ways to a row from a column of ", k), n, number, max(0, min(1, 2-k)), ok)
		}
		for _, class := range partitions(n) {
			number, ok := impl.CharacterOf([]int{n}, class)
			wantValue(t, "character of one row", class, number, 1, ok)
			number, ok = impl.CharacterOf(ones(n), class)
			wantValue(t, "character of one column", class, number, evenSign(n-len(class)), ok)
		}
	}
}

func TestChainCountEdges(t *testing.T) {
	for _, of := range []struct {
		p    []int
		want int
	}{
		{[]int{20}, 1}, {ones(20), 1}, {[]int{19, 1}, 19}, {[]int{10, 10}, 16796}, {slices.Repeat([]int{2}, 10), 16796},
		{[]int{5, 5, 5, 5}, 1662804}, {[]int{4, 4, 4, 4, 4}, 1662804}, {[]int{6, 5, 4, 3, 2}, 141892608}, {[]int{7, 5, 3, 2, 2, 1}, 249420600},
	} {
		number, ok := impl.CountChains(of.p)
		wantValue(t, "number of chains", of.p, number, of.want, ok)
	}
	for n := 21; n <= impl.MaxCells; n++ {
		for _, p := range [][]int{{n}, ones(n), {n - 1, 1}, {n - 10, 10}, {n - 12, 5, 4, 3}} {
			number, ok := impl.CountChains(p)
			wantNoValue(t, "number of chains", p, number, ok)
		}
	}
	for _, p := range [][]int{{7, 7, 7}, {6, 5, 4, 3, 2, 1}, {5, 5, 5, 5, 1}, {15, 15}} {
		number, ok := impl.CountChains(p)
		wantNoValue(t, "number of chains", p, number, ok)
	}
}

func TestChainBetweenEdges(t *testing.T) {
	for _, of := range []struct {
		p, q []int
		want int
	}{
		{nil, []int{12}, 1}, {nil, ones(12), 1}, {nil, []int{6, 6}, 132}, {nil, []int{5, 3, 2, 1, 1}, 7700}, {[]int{6, 5}, []int{6, 6}, 1}, {[]int{1}, []int{4, 4, 4}, 462},
		{[]int{2, 1}, []int{3, 2, 1}, 6}, {[]int{2, 2}, []int{4, 2, 2}, 6}, {[]int{1}, []int{2, 1}, 2},
		{[]int{3}, []int{2, 2}, 0}, {[]int{1, 1}, []int{3}, 0}, {[]int{2}, []int{1, 1, 1}, 0}, {[]int{2, 2}, []int{7, 1}, 0}, {[]int{1, 1, 1}, []int{6, 6}, 0}, // not inside
		{[]int{3}, []int{2, 1}, 0}, {[]int{2, 1}, []int{1, 1, 1}, 0}, {[]int{6, 6}, []int{12}, 0}, {ones(12), []int{12}, 0}, // as many cells
		{[]int{3}, []int{2}, 0}, {[]int{1, 1, 1}, []int{1, 1}, 0}, {[]int{13}, []int{12}, 0}, {ones(13), ones(12), 0}, {[]int{30}, []int{12}, 0}, {ones(30), nil, 0}, {[]int{15, 15}, []int{6, 6}, 0}, // more cells
	} {
		number, ok := impl.CountBetween(of.p, of.q)
		wantValue(t, fmt.Sprint("ways from ", of.p), of.q, number, of.want, ok)
	}
	for n := 0; n <= impl.MaxChained; n++ {
		for _, p := range partitions(n) {
			number, ok := impl.CountBetween(p, p)
			wantValue(t, "ways from itself", p, number, 1, ok)
		}
	}
	for _, q := range [][]int{{13}, ones(13), {7, 6}, {5, 4, 3, 1}, {14}, {30}, ones(30)} {
		for _, p := range [][]int{nil, {1}, {12}, {13}, ones(13), {2, 2, 2}, {30}, q} {
			number, ok := impl.CountBetween(p, q)
			wantNoValue(t, fmt.Sprint("ways from ", p), q, number, ok)
		}
	}
}

func TestChainRowEdges(t *testing.T) {
	for _, rows := range [][]int{
		{1}, {2}, {1, 0}, {1, 0, 0}, {99}, {99, 0}, upTo(13)[1:], ones(12), // at the first number
		{0, 2}, {0, 0, 2}, {0, 1, 1}, {0, 0, 1, 1, 1}, {0, 1, 2, 2}, {0, 99}, {0, 1, 3}, {0, 0, 0, 1, 1, 1, 1}, append(make([]int, 11), 2), append(upTo(11), 12), append(upTo(11), 1), append(make([]int, 11), 99), // at the last one
		{0, 1, 1, 0}, {0, 2, 1}, {0, 0, 2, 1}, {0, 99, 0}, // between
	} {
		isChain, ok := impl.IsChain(rows)
		wantValue(t, "whether chain", rows, isChain, false, ok)
		wantNoChain(t, rows)
	}
	for _, rows := range [][]int{
		{100}, {0, 100}, {0, 1, 100}, {100, 0}, {101}, {0, 1 << 32}, {1 << 32}, {math.MaxInt}, {0, math.MaxInt}, {0, 0, math.MaxInt, 0}, // too great
		{-1}, {0, -1}, {-1, 0}, {0, 0, -1}, {0, 1, 2, -1}, {-1 << 32}, {math.MinInt}, {0, math.MinInt}, {math.MaxInt, math.MinInt}, // too small
		make([]int, 13), upTo(13), append(make([]int, 12), 1), append(make([]int, 12), 99), append(make([]int, 12), 100), make([]int, 14), make([]int, 100000), ones(13), // too many
	} {
		isChain, ok := impl.IsChain(rows)
		wantNoValue(t, "whether chain", brief([][]int{rows}), isChain, ok)
		wantNoChain(t, rows)
	}
	for _, rows := range [][]int{make([]int, 12), upTo(12), append(make([]int, 11), 1), append(upTo(11), 0), {0, 1, 0, 1, 2, 2, 0, 1, 2, 3, 3, 3}} {
		want, wantChain := shapeByCells(rows)
		isChain, ok := impl.IsChain(rows)
		wantValue(t, "whether chain", rows, isChain, true, ok && wantChain)
		shape, ok := impl.ShapeOf(rows)
		wantList(t, "shape", rows, shape, want, ok)
	}
}

func TestChainRankEdges(t *testing.T) {
	for _, of := range []struct {
		p           []int
		count       int
		first, last []int
	}{
		{[]int{1}, 1, []int{0}, []int{0}},
		{[]int{2, 1}, 2, []int{0, 0, 1}, []int{0, 1, 0}},
		{[]int{3, 2, 1}, 16, []int{0, 0, 0, 1, 1, 2}, []int{0, 1, 2, 0, 1, 0}},
		{[]int{6, 6}, 132, []int{0, 0, 0, 0, 0, 0, 1, 1, 1, 1, 1, 1}, []int{0, 1, 0, 1, 0, 1, 0, 1, 0, 1, 0, 1}},
		{[]int{11, 1}, 11, append(make([]int, 11), 1), append([]int{0, 1}, make([]int, 10)...)},
		{[]int{5, 3, 2, 1, 1}, 7700, []int{0, 0, 0, 0, 0, 1, 1, 1, 2, 2, 3, 4}, []int{0, 1, 2, 3, 4, 0, 1, 2, 0, 1, 0, 0}},
	} {
		chain, ok := impl.ChainWith(of.p, 0)
		wantList(t, "first chain", of.p, chain, of.first, ok)
		chain, ok = impl.ChainWith(of.p, of.count-1)
		wantList(t, "last chain", of.p, chain, of.last, ok)
		rank, ok := impl.RankChain(of.first)
		wantValue(t, "rank", of.first, rank, 0, ok)
		rank, ok = impl.RankChain(of.last)
		wantValue(t, "rank", of.last, rank, of.count-1, ok)
		for _, rank := range []int{of.count, of.count + 1, 1 << 32, math.MaxInt, -1, -of.count, math.MinInt} {
			chain, ok := impl.ChainWith(of.p, rank)
			wantNoList(t, fmt.Sprint("chain of ", of.p, " with rank"), rank, chain, ok)
		}
	}
	for _, p := range [][]int{{13}, ones(13), {12, 1}, {5, 4, 3, 1}, {14}, {20}, {30}, ones(30)} {
		for _, rank := range []int{0, 1, -1} {
			chain, ok := impl.ChainWith(p, rank)
			wantNoList(t, fmt.Sprint("chain of ", p, " with rank"), rank, chain, ok)
		}
	}
}

func TestChainNumberEdges(t *testing.T) {
	number, ok := impl.SquaresOf(12)
	wantValue(t, "sum of squares", 12, number, 479001600, ok)
	table, ok := impl.CharacterTable(8)
	wantValue(t, "rows of the table", 8, len(table), 22, ok)
	table, ok = impl.CharacterTable(1)
	wantRows(t, "table", 1, table, [][]int{{1}}, ok)
	for _, n := range []int{9, 10, 12} {
		table, ok := impl.CharacterTable(n)
		wantNoRows(t, "table", n, table, ok)
	}
	for _, n := range []int{13, 14, 15, 20, 30, 31, 1 << 32, math.MaxInt, -1, -8, -12, math.MinInt} {
		number, ok := impl.SquaresOf(n)
		wantNoValue(t, "sum of squares", n, number, ok)
		table, ok := impl.CharacterTable(n)
		wantNoRows(t, "table", n, table, ok)
	}
}

func TestCharacterRowEdges(t *testing.T) {
	row, ok := impl.CharacterRow([]int{8})
	wantList(t, "characters", "8", row, ones(22), ok)
	row, ok = impl.CharacterRow([]int{7, 1})
	var fixed []int
	for _, class := range partitions(8) {
		things := 0
		for _, cycle := range class {
			if cycle == 1 {
				things++
			}
		}
		fixed = append(fixed, things-1)
	}
	wantList(t, "characters: fixed things less 1", "7 1", row, fixed, ok)
	for _, p := range [][]int{{9}, ones(9), {8, 1}, {3, 3, 3}, {12}, {13}, {30}, ones(30)} {
		row, ok := impl.CharacterRow(p)
		wantNoList(t, "characters", p, row, ok)
	}
}

func TestCharacterCellEdges(t *testing.T) {
	for _, of := range []struct {
		p, cycles []int
		want      int
	}{
		{[]int{12}, []int{12}, 1}, {ones(12), []int{12}, -1}, {ones(12), ones(12), 1}, {[]int{6, 6}, []int{12}, 0}, {[]int{11, 1}, []int{12}, -1}, {[]int{10, 1, 1}, []int{12}, 1}, {[]int{7, 5}, ones(12), 297},
		{[]int{4, 4, 4}, []int{3, 3, 3, 3}, 12}, {[]int{5, 4, 3}, []int{3, 3, 3, 3}, -12}, {[]int{6, 6}, []int{6, 6}, 2}, {[]int{6, 6}, []int{1, 11}, 0}, {[]int{6, 6}, []int{11, 1}, 0}, {[]int{4, 4, 4}, []int{1, 2, 3, 1, 2, 3}, -1}, {[]int{4, 4, 4}, []int{3, 3, 2, 2, 1, 1}, -1},
		{[]int{5, 3, 2, 1, 1}, ones(12), 7700}, {[]int{5, 3, 2, 1, 1}, []int{2, 2, 2, 2, 2, 2}, 20},
	} {
		number, ok := impl.CharacterOf(of.p, of.cycles)
		wantValue(t, fmt.Sprint("character at ", of.cycles), of.p, number, of.want, ok)
	}
	for _, p := range [][]int{{13}, ones(13), {7, 6}, {14}, {20}, {30}, ones(30)} {
		for _, cycles := range [][]int{{sumOf(p)}, ones(sumOf(p)), p, {12}, nil} {
			wantNoCharacter(t, p, cycles)
		}
	}
}

func TestCharacterOtherSums(t *testing.T) {
	for n := range 7 {
		for m := range 7 {
			for _, p := range partitions(n) {
				for _, cycles := range cyclesOf(m) {
					if n != m {
						wantNoCharacter(t, p, cycles)
					}
				}
			}
		}
	}
	for _, cycles := range [][]int{{11}, {6, 5}, ones(11), {13}, {12, 1}, ones(13), {1, 12}} {
		wantNoCharacter(t, []int{12}, cycles)
		wantNoCharacter(t, ones(12), cycles)
	}
}

// At cycles 1 alone the character counts the chains, and at a single cycle only a hook has one.
func TestCharacterOnesAndOneCycle(t *testing.T) {
	for n := 1; n <= impl.MaxChained; n++ {
		for _, p := range partitions(n) {
			number, ok := impl.CharacterOf(p, ones(n))
			wantValue(t, "character at cycles 1", p, number, chainsDown(p), ok)
			want := 0
			if len(p) == 1 || p[1] == 1 {
				want = evenSign(len(p) - 1)
			}
			number, ok = impl.CharacterOf(p, []int{n})
			wantValue(t, "character at one cycle", p, number, want, ok)
		}
	}
}

// The first cycle finds no rim, or ways whose signs cancel; in each other order the sum is 0, too.
func TestCharacterNoRims(t *testing.T) {
	for _, of := range []struct{ p, cycles []int }{
		{[]int{2, 1}, []int{2, 1}}, {[]int{2, 1}, []int{1, 2}}, {[]int{2, 2}, []int{4}}, {[]int{3, 3}, []int{5, 1}}, {[]int{3, 3}, []int{1, 5}}, {[]int{3, 2, 1}, []int{2, 2, 2}}, {[]int{3, 2, 1}, []int{4, 1, 1}}, {[]int{3, 2, 1}, []int{1, 4, 1}},
		{[]int{3, 2, 1}, []int{1, 1, 4}}, {[]int{4, 4, 4}, []int{7, 5}}, {[]int{4, 4, 4}, []int{5, 7}}, {[]int{4, 3, 2, 1}, []int{2, 8}}, {[]int{4, 3, 2, 1}, []int{6, 4}}, {[]int{4, 3, 2, 1}, []int{1, 3, 2, 4}},
	} {
		number, ok := impl.CharacterOf(of.p, of.cycles)
		wantValue(t, fmt.Sprint("character at ", of.cycles), of.p, number, 0, ok)
	}
}

func TestClassEdges(t *testing.T) {
	checkClass(t, []int{12}, 39916800, 12, -1)
	checkClass(t, ones(12), 1, 479001600, 1)
	checkClass(t, []int{2, 2, 2, 2, 2, 2}, 10395, 46080, 1)
	checkClass(t, []int{1}, 1, 1, 1)
	checkClass(t, []int{2}, 1, 2, -1)
	for _, cycles := range [][]int{{1, 2, 3}, {3, 2, 1}, {2, 3, 1}, {2, 1, 3}} {
		checkClass(t, cycles, 120, 6, -1)
	}
	for _, cycles := range [][]int{{2, 1, 2, 1}, {1, 2, 2, 1}, {1, 1, 2, 2}, {2, 2, 1, 1}} {
		checkClass(t, cycles, 45, 16, 1)
	}
}

// notCycles returns lists that are no cycles of at most MaxChained.
func notCycles() [][]int {
	lists := [][]int{
		{0}, {0, 1}, {1, 0}, {2, 0, 1}, {0, 0}, {12, 0}, make([]int, 12), // 0
		{-1}, {1, -1}, {-1, 1}, {3, -1}, {-1, 3}, {13, -1}, {-1, 13}, {1, 1, -2}, {-12}, // less than 0
		{13}, {12, 1}, {1, 12}, {7, 6}, {6, 7}, ones(13), {4, 4, 4, 1}, {14}, {30}, ones(30), ones(100000), // too many
		{1 << 32}, {1<<32 + 1}, {1, 1 << 32}, {-1 << 32}, slices.Repeat([]int{1 << 62}, 4), slices.Repeat([]int{1 << 60}, 16), {math.MaxInt, math.MaxInt, 2}, {math.MaxInt, math.MaxInt, 3}, {math.MinInt, math.MinInt}, {math.MaxInt, math.MinInt, 2}, // sums that overflow
	}
	for _, number := range []int{math.MinInt, math.MinInt + 1, math.MaxInt - 1, math.MaxInt} {
		lists = append(lists, []int{number}, []int{1, number}, []int{number, 1}, []int{number, number}, []int{12, number})
	}
	return lists
}

func TestClassInvalidCycles(t *testing.T) {
	for _, cycles := range notCycles() {
		from := brief([][]int{cycles})
		number, ok := impl.ClassSize(cycles)
		wantNoValue(t, "size of the class", from, number, ok)
		number, ok = impl.ClassWeight(cycles)
		wantNoValue(t, "weight of the class", from, number, ok)
		number, ok = impl.SignOfClass(cycles)
		wantNoValue(t, "sign of the class", from, number, ok)
		for _, other := range [][]int{nil, {1}, {2, 1}, {1, 2}, {8}, {12}, cycles} {
			number, ok := impl.ColumnProduct(cycles, other)
			wantNoValue(t, "product with columns", from, number, ok)
			number, ok = impl.ColumnProduct(other, cycles)
			wantNoValue(t, "product of columns", from, number, ok)
		}
		for _, p := range [][]int{nil, {1}, {2}, {2, 1}, {12}, ones(12), {13}, ones(30), {30}} {
			wantNoCharacter(t, p, cycles)
		}
	}
}

func TestCharacterProductEdges(t *testing.T) {
	for n := 0; n <= impl.MaxCharacter; n++ {
		number, ok := impl.RowProduct(ones(n), ones(n))
		wantValue(t, "product of a column's row with itself", n, number, product(n), ok)
		number, ok = impl.ColumnProduct(ones(n), ones(n))
		wantValue(t, "product of the column of cycles 1 with itself", n, number, product(n), ok)
		if n >= 2 {
			number, ok = impl.RowProduct([]int{n}, ones(n))
			wantValue(t, "product of different rows", n, number, 0, ok)
			number, ok = impl.ColumnProduct([]int{n}, ones(n))
			wantValue(t, "product of different columns", n, number, 0, ok)
			number, ok = impl.ColumnProduct([]int{n}, []int{n})
			wantValue(t, "product of the column of one cycle with itself", n, number, n, ok)
		}
	}
	for _, of := range []struct {
		a, b []int
		want int
	}{
		{[]int{1, 2, 3}, []int{3, 2, 1}, 6}, {[]int{2, 3, 1}, []int{1, 3, 2}, 6}, {[]int{1, 2, 2, 1}, []int{2, 1, 1, 2}, 16}, {[]int{5, 3}, []int{3, 5}, 15}, {[]int{1, 7}, []int{7, 1}, 7},
		{[]int{2, 2}, []int{1, 3}, 0}, {[]int{2, 2}, []int{2, 1, 1}, 0}, {[]int{5, 3}, []int{4, 4}, 0}, {[]int{1, 1, 6}, []int{6, 2}, 0},
	} {
		number, ok := impl.ColumnProduct(of.a, of.b)
		wantValue(t, fmt.Sprint("product with the column of ", of.b), of.a, number, of.want, ok)
	}
	for n := range 7 {
		for m := range n {
			for _, p := range partitions(n) {
				for _, q := range partitions(m) {
					wantNoProducts(t, p, q)
				}
			}
		}
	}
	for _, p := range [][]int{{9}, ones(9), {5, 4}, {3, 3, 3}, {12}, ones(12), {13}, {30}} {
		for _, q := range [][]int{p, {9}, ones(9), {8}, ones(8), {1}, nil} {
			wantNoProducts(t, p, q)
		}
	}
	for _, lists := range [][][]int{{{8}, {7}}, {{8}, {7, 2}}, {{8}, ones(7)}, {{4, 4}, {4, 3}}} {
		wantNoProducts(t, lists[0], lists[1])
	}
}

func TestChainInvalidPartitions(t *testing.T) {
	for _, p := range notPartitions() {
		from := brief([][]int{p})
		number, ok := impl.CountChains(p)
		wantNoValue(t, "number of chains", from, number, ok)
		for _, q := range [][]int{nil, {1}, {2, 1}, {12}, {13}, {30}, p} {
			number, ok := impl.CountBetween(p, q)
			wantNoValue(t, "ways from", from, number, ok)
			number, ok = impl.CountBetween(q, p)
			wantNoValue(t, "ways to", from, number, ok)
			number, ok = impl.RowProduct(p, q)
			wantNoValue(t, "product with rows", from, number, ok)
			number, ok = impl.RowProduct(q, p)
			wantNoValue(t, "product of rows", from, number, ok)
		}
		for _, rank := range []int{0, 1, -1} {
			chain, ok := impl.ChainWith(p, rank)
			wantNoList(t, "chain", from, chain, ok)
		}
		for _, cycles := range [][]int{nil, {1}, {2, 1}, {3}, ones(3), {12}, p, rising(p), falling(p)} {
			wantNoCharacter(t, p, cycles)
		}
		row, ok := impl.CharacterRow(p)
		wantNoList(t, "characters", from, row, ok)
	}
}
