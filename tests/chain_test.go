package tests

import (
	"fmt"
	"slices"
	"testing"

	"loop.example/g01136/impl"
)

// Promise 6: all partitions, chains and classes of small numbers of cells, against the model.

func TestChainExample(t *testing.T) {
	p := []int{2, 1}
	number, ok := impl.CountChains(p)
	wantValue(t, "number of chains", p, number, 2, ok)
	for rank, rows := range [][]int{{0, 0, 1}, {0, 1, 0}} {
		isChain, ok := impl.IsChain(rows)
		wantValue(t, "whether chain", rows, isChain, true, ok)
		shape, ok := impl.ShapeOf(rows)
		wantList(t, "shape", rows, shape, p, ok)
		got, ok := impl.RankChain(rows)
		wantValue(t, "rank", rows, got, rank, ok)
		chain, ok := impl.ChainWith(p, rank)
		wantList(t, "chain of 2 1 with rank", rank, chain, rows, ok)
	}
	number, ok = impl.CountBetween([]int{1}, p)
	wantValue(t, "ways from 1", p, number, 2, ok)
	number, ok = impl.SquaresOf(3)
	wantValue(t, "sum of squares", 3, number, 6, ok)
	row, ok := impl.CharacterRow(p)
	wantList(t, "characters", p, row, []int{-1, 0, 2}, ok)
	for i, cycles := range [][]int{{3}, {2, 1}, {1, 1, 1}} {
		number, ok = impl.CharacterOf(p, cycles)
		wantValue(t, fmt.Sprint("character at ", cycles), p, number, row[i], ok)
		number, ok = impl.ClassSize(cycles)
		wantValue(t, "size of the class", cycles, number, []int{2, 3, 1}[i], ok)
		number, ok = impl.ClassWeight(cycles)
		wantValue(t, "weight of the class", cycles, number, []int{3, 2, 6}[i], ok)
		number, ok = impl.SignOfClass(cycles)
		wantValue(t, "sign of the class", cycles, number, []int{1, -1, 1}[i], ok)
	}
	table, ok := impl.CharacterTable(3)
	wantRows(t, "table", 3, table, [][]int{{1, 1, 1}, {-1, 0, 2}, {1, -1, 1}}, ok)
	number, ok = impl.RowProduct(p, []int{3})
	wantValue(t, "product with the row of 3", p, number, 0, ok)
	number, ok = impl.RowProduct(p, p)
	wantValue(t, "product with its own row", p, number, 6, ok)
	number, ok = impl.ColumnProduct([]int{2, 1}, []int{1, 2})
	wantValue(t, "product with the column of 1 2", p, number, 2, ok)
	number, ok = impl.ColumnProduct([]int{2, 1}, []int{3})
	wantValue(t, "product with the column of 3", p, number, 0, ok)
}

func TestChainCounts(t *testing.T) {
	for n := 0; n <= 20; n++ {
		for _, p := range partitions(n) {
			number, ok := impl.CountChains(p)
			wantValue(t, "number of chains", p, number, chainsDown(p), ok)
		}
	}
	for n := range 10 {
		lists := chainsByShape(n)
		for _, p := range partitions(n) {
			number, ok := impl.CountChains(p)
			wantValue(t, "number of chains", p, number, len(lists[fmt.Sprint(p)]), ok)
		}
	}
}

func TestChainBetweenSmall(t *testing.T) {
	var small [][]int
	for n := range 8 {
		small = append(small, partitions(n)...)
	}
	for _, p := range small {
		for _, q := range small {
			number, ok := impl.CountBetween(p, q)
			wantValue(t, fmt.Sprint("ways from ", p), q, number, betweenByCells(p, q), ok)
		}
	}
}

func TestChainBetweenMostCells(t *testing.T) {
	for n := 8; n <= impl.MaxChained; n++ {
		for k, q := range partitions(n) {
			for cells := k % 3; cells <= n; cells += 3 {
				for _, p := range partitions(cells) {
					number, ok := impl.CountBetween(p, q)
					wantValue(t, fmt.Sprint("ways from ", p), q, number, betweenByCells(p, q), ok)
				}
			}
			number, ok := impl.CountBetween(nil, q)
			wantValue(t, "ways from no cells", q, number, chainsDown(q), ok)
		}
	}
}

// All lists of rows, most of which are no chains.
func TestChainAllRows(t *testing.T) {
	for _, rows := range listsUpTo(6, 0, 1, 2, 3, 4, 5, 6) {
		want, wantChain := shapeByCells(rows)
		isChain, ok := impl.IsChain(rows)
		wantValue(t, "whether chain", rows, isChain, wantChain, ok)
		shape, ok := impl.ShapeOf(rows)
		if wantChain {
			wantList(t, "shape", rows, shape, want, ok)
		} else {
			wantNoChain(t, rows)
		}
	}
}

// wantNoChain calls what requires a chain with rows that are none.
func wantNoChain(t *testing.T, rows []int) {
	t.Helper()
	from := brief([][]int{rows})
	shape, ok := impl.ShapeOf(rows)
	wantNoList(t, "shape", from, shape, ok)
	rank, ok := impl.RankChain(rows)
	wantNoValue(t, "rank", from, rank, ok)
}

func TestChainAllChains(t *testing.T) {
	for n := range 11 {
		for _, chain := range chainsOf(n) {
			isChain, ok := impl.IsChain(chain.rows)
			wantValue(t, "whether chain", chain.rows, isChain, true, ok)
			shape, ok := impl.ShapeOf(chain.rows)
			wantList(t, "shape", chain.rows, shape, chain.shape, ok)
		}
		lists := chainsByShape(n)
		for _, p := range partitions(n) {
			list := lists[fmt.Sprint(p)]
			for rank, rows := range list {
				got, ok := impl.RankChain(rows)
				wantValue(t, "rank", rows, got, rank, ok)
				chain, ok := impl.ChainWith(p, rank)
				wantList(t, fmt.Sprint("chain of ", p, " with rank"), rank, chain, rows, ok)
			}
			chain, ok := impl.ChainWith(p, len(list))
			wantNoList(t, fmt.Sprint("chain of ", p, " with rank"), len(list), chain, ok)
		}
	}
}

// With MaxChained cells, the first chains, the last ones and some between.
func TestChainMostCells(t *testing.T) {
	for _, p := range partitions(impl.MaxChained) {
		count := chainsDown(p)
		var last []int
		for rank := 0; rank < count; rank = min(rank+1+count/9, max(rank+1, count-1)) {
			chain, ok := impl.ChainWith(p, rank)
			shape, isChain := shapeByCells(chain)
			wantList(t, fmt.Sprint("shape of the chain of ", p, " with rank"), rank, shape, p, ok && isChain)
			if rank > 0 && slices.Compare(last, chain) >= 0 {
				t.Errorf("chain of %v with rank %d: %v is not behind %v", p, rank, chain, last)
			}
			got, ok := impl.RankChain(chain)
			wantValue(t, "rank", chain, got, rank, ok)
			last = chain
		}
		chain, ok := impl.ChainWith(p, count)
		wantNoList(t, fmt.Sprint("chain of ", p, " with rank"), count, chain, ok)
	}
}

func TestChainSquares(t *testing.T) {
	for n := 0; n <= impl.MaxChained; n++ {
		sum := 0
		for _, p := range partitions(n) {
			sum += chainsDown(p) * chainsDown(p)
		}
		number, ok := impl.SquaresOf(n)
		wantValue(t, "sum of squares", n, number, sum, ok)
		wantValue(t, "sum of squares", n, number, product(n), ok)
	}
}

// All classes in all orders of their cycles; the characters are the same in each of them.
func TestCharacterAllOrders(t *testing.T) {
	for n := 0; n <= impl.MaxCharacter; n++ {
		for _, p := range partitions(n) {
			for _, cycles := range cyclesOf(n) {
				number, ok := impl.CharacterOf(p, cycles)
				wantValue(t, fmt.Sprint("character at ", cycles), p, number, characterByRims(p, cycles), ok)
				wantValue(t, fmt.Sprint("character at ", falling(cycles)), p, number, characterByRims(p, falling(cycles)), ok)
			}
		}
	}
}

func TestCharacterByBoxes(t *testing.T) {
	for n := range 7 {
		for _, p := range partitions(n) {
			for _, class := range partitions(n) {
				number, ok := impl.CharacterOf(p, class)
				wantValue(t, fmt.Sprint("character at ", class), p, number, characterByBoxes(p, class), ok)
			}
		}
	}
}

func TestCharacterMostCells(t *testing.T) {
	for n := impl.MaxCharacter + 1; n <= impl.MaxChained; n++ {
		for _, p := range partitions(n) {
			for _, class := range partitions(n) {
				want := characterByRims(p, class)
				for _, cycles := range [][]int{class, rising(class)} {
					number, ok := impl.CharacterOf(p, cycles)
					wantValue(t, fmt.Sprint("character at ", cycles), p, number, want, ok)
				}
			}
		}
	}
}

// Those of the conjugate are the same but for the sign of the class.
func TestCharacterConjugates(t *testing.T) {
	for n := 0; n <= impl.MaxCharacter; n++ {
		for _, p := range partitions(n) {
			row, _ := impl.CharacterRow(p)
			other, ok := impl.CharacterRow(turned(p))
			for i, class := range partitions(n) {
				sign, _ := impl.SignOfClass(class)
				other[i] *= sign
			}
			wantList(t, "characters of the conjugate, with signs", p, other, row, ok)
		}
	}
}

func TestCharacterTables(t *testing.T) {
	for n := 0; n <= impl.MaxCharacter; n++ {
		var want [][]int
		for _, p := range partitions(n) {
			var row []int
			for _, class := range partitions(n) {
				row = append(row, characterByRims(p, class))
			}
			got, ok := impl.CharacterRow(p)
			wantList(t, "characters", p, got, row, ok)
			want = append(want, row)
		}
		table, ok := impl.CharacterTable(n)
		wantRows(t, "table", n, table, want, ok)
	}
	table, ok := impl.CharacterTable(4)
	wantRows(t, "table", 4, table, [][]int{{1, 1, 1, 1, 1}, {-1, 0, -1, 1, 3}, {0, -1, 2, 0, 2}, {1, 0, -1, -1, 3}, {-1, 1, 1, -1, 1}}, ok)
}

func TestClassesOfPermutations(t *testing.T) {
	for n := range 8 {
		sizes, signs := map[string]int{}, map[string]int{}
		for _, order := range permutations(n) {
			key := fmt.Sprint(classOfPermutation(order))
			sizes[key]++
			signs[key] = evenSign(inversions(order))
		}
		for _, class := range partitions(n) {
			weight := commuting(permutationWith(class))
			for _, cycles := range cyclesOf(n) {
				if slices.Equal(falling(cycles), class) {
					key := fmt.Sprint(class)
					checkClass(t, cycles, sizes[key], weight, signs[key])
				}
			}
		}
	}
}

func TestClassesOfMostThings(t *testing.T) {
	for n := 8; n <= impl.MaxChained; n++ {
		sum := 0
		for _, class := range partitions(n) {
			weight := weightByRule(class)
			sign := evenSign(inversions(permutationWith(class)))
			for _, cycles := range [][]int{class, rising(class)} {
				checkClass(t, cycles, product(n)/weight, weight, sign)
			}
			size, _ := impl.ClassSize(class)
			sum += size
		}
		wantValue(t, "sum of the sizes of all classes", n, sum, product(n), true)
	}
}

func checkClass(t *testing.T, cycles []int, size, weight, sign int) {
	t.Helper()
	number, ok := impl.ClassSize(cycles)
	wantValue(t, "size of the class", cycles, number, size, ok)
	number, ok = impl.ClassWeight(cycles)
	wantValue(t, "weight of the class", cycles, number, weight, ok)
	number, ok = impl.SignOfClass(cycles)
	wantValue(t, "sign of the class", cycles, number, sign, ok)
}

func TestCharacterRowProducts(t *testing.T) {
	for n := 0; n <= impl.MaxCharacter; n++ {
		for i, p := range partitions(n) {
			for k, q := range partitions(n) {
				want := 0
				if i == k {
					want = product(n)
				}
				number, ok := impl.RowProduct(p, q)
				wantValue(t, fmt.Sprint("product with the row of ", q), p, number, want, ok)
			}
		}
	}
}

func TestCharacterColumnProducts(t *testing.T) {
	for n := range 7 {
		for _, a := range cyclesOf(n) {
			for _, b := range cyclesOf(n) {
				checkColumns(t, a, b)
			}
		}
	}
	for n := 7; n <= impl.MaxCharacter; n++ {
		for _, a := range partitions(n) {
			for _, b := range partitions(n) {
				checkColumns(t, a, rising(b))
			}
		}
	}
}

func checkColumns(t *testing.T, a, b []int) {
	t.Helper()
	want := 0
	if slices.Equal(falling(a), falling(b)) {
		want = weightByRule(a)
	}
	number, ok := impl.ColumnProduct(a, b)
	wantValue(t, fmt.Sprint("product with the column of ", b), a, number, want, ok)
}
