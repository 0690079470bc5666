package tests

import (
	"fmt"
	"math"
	"slices"
	"testing"

	"loop.example/g01136/impl"
)

// Promise 7: the edges that the chapter names or that its limits make, and invalid arguments.

func TestBarLimits(t *testing.T) {
	wantValue(t, "limit", "strict partitions", impl.MaxStrict, 24, true)
}

func TestBarNoCells(t *testing.T) {
	for _, none := range [][]int{nil, {}} {
		isStrict, ok := impl.IsStrict(none)
		wantValue(t, "whether strict", none, isStrict, true, ok)
		for _, size := range barSizes() {
			checkBars(t, none, size, nil, nil)
			checkBarCore(t, none, size, none, 0)
		}
		double, ok := impl.DoubleOf(none)
		wantList(t, "double", none, double, nil, ok)
		isDouble, ok := impl.IsDouble(none)
		wantValue(t, "whether double", none, isDouble, true, ok)
		strict, ok := impl.FromDouble(none)
		wantList(t, "from the double", none, strict, nil, ok)
		lengths, ok := impl.BarLengths(none)
		wantRows(t, "bar lengths", none, lengths, nil, ok)
		number, ok := impl.CountShifted(none)
		wantValue(t, "ways to put cells in", none, number, 1, ok)
		odd, ok := impl.OddFromStrict(none)
		wantList(t, "odd parts", none, odd, nil, ok)
		strict, ok = impl.StrictFromOdd(none)
		wantList(t, "strict partition", none, strict, nil, ok)
	}
	list, ok := impl.AllStrict(0)
	wantRows(t, "strict partitions", 0, list, [][]int{{}}, ok)
	number, ok := impl.CountStrict(0)
	wantValue(t, "number of strict partitions", 0, number, 1, ok)
}

// checkBars wants bars, and what is left without each of them, and no others.
func checkBars(t *testing.T, p []int, size int, bars, left [][]int) {
	t.Helper()
	got, ok := impl.BarsOf(p, size)
	wantRows(t, fmt.Sprint(size, "-bars"), p, got, bars, ok)
	for k, want := range left {
		less, ok := impl.TakeBar(p, size, k)
		wantList(t, fmt.Sprint("without the ", size, "-bar ", k), p, less, want, ok)
	}
	for _, k := range []int{len(bars), len(bars) + 1, 1 << 32, math.MaxInt, -1, -len(bars) - 1, math.MinInt} {
		less, ok := impl.TakeBar(p, size, k)
		wantNoList(t, fmt.Sprint("without the ", size, "-bar ", k), p, less, ok)
	}
	isCore, ok := impl.IsBarCore(p, size)
	wantValue(t, fmt.Sprint("whether bar core for ", size), p, isCore, len(bars) == 0, ok)
}

func checkBarCore(t *testing.T, p []int, size int, want []int, weight int) {
	t.Helper()
	core, ok := impl.BarCore(p, size)
	wantList(t, fmt.Sprint("bar core for ", size), p, core, want, ok)
	number, ok := impl.BarWeight(p, size)
	wantValue(t, fmt.Sprint("bar weight for ", size), p, number, weight, ok)
}

func TestBarOnePart(t *testing.T) {
	for part := 1; part <= impl.MaxCells; part++ {
		p := []int{part}
		isStrict, ok := impl.IsStrict(p)
		wantValue(t, "whether strict", p, isStrict, true, ok)
		for _, size := range barSizes() {
			var rest []int
			if part%size > 0 {
				rest = []int{part % size}
			}
			checkBarCore(t, p, size, rest, part/size)
			switch {
			case part < size:
				checkBars(t, p, size, nil, nil)
			case part == size:
				checkBars(t, p, size, [][]int{p}, [][]int{nil})
			default:
				checkBars(t, p, size, [][]int{p}, [][]int{{part - size}})
			}
		}
		lengths, ok := impl.BarLengths(p)
		wantRows(t, "bar lengths", p, lengths, [][]int{falling(upTo(part + 1)[1:])}, ok)
		if part <= 15 {
			double, ok := impl.DoubleOf(p)
			wantList(t, "double", p, double, append([]int{part + 1}, ones(part-1)...), ok)
			strict, ok := impl.FromDouble(double)
			wantList(t, "from the double", double, strict, p, ok)
			number, ok := impl.CountShifted(p)
			wantValue(t, "ways to put cells in", p, number, 1, ok)
		}
	}
}

func TestBarTakenEdges(t *testing.T) {
	for _, of := range []struct {
		p          []int
		size       int
		bars, left [][]int
	}{
		{[]int{2, 1}, 3, [][]int{{2, 1}}, [][]int{nil}}, {[]int{2, 1}, 5, nil, nil}, {[]int{3, 2}, 5, [][]int{{3, 2}}, [][]int{nil}}, {[]int{4, 1}, 5, [][]int{{4, 1}}, [][]int{nil}}, // two parts with the sum
		{[]int{3}, 3, [][]int{{3}}, [][]int{nil}}, {[]int{5}, 5, [][]int{{5}}, [][]int{nil}}, {[]int{4, 3}, 3, [][]int{{4}, {3}}, [][]int{{3, 1}, {4}}}, {[]int{5, 4}, 5, [][]int{{5}}, [][]int{{4}}}, {[]int{3, 2}, 3, [][]int{{3}}, [][]int{{2}}}, // a part becomes 0
		{[]int{6, 3}, 3, [][]int{{3}}, [][]int{{6}}}, {[]int{10, 5}, 5, [][]int{{5}}, [][]int{{10}}}, {[]int{9, 6, 3}, 3, [][]int{{3}}, [][]int{{9, 6}}}, // the place below is taken, but the last part becomes 0
		{[]int{4, 1}, 3, nil, nil}, {[]int{5, 2}, 3, nil, nil}, {[]int{8, 5, 2}, 3, nil, nil}, {[]int{6, 1}, 5, nil, nil}, {[]int{9, 4}, 5, nil, nil}, {[]int{8, 3}, 5, nil, nil}, // the place below is taken
		{[]int{7, 2, 1}, 3, [][]int{{7}, {2, 1}}, [][]int{{4, 2, 1}, {7}}}, {[]int{4, 2, 1}, 3, [][]int{{2, 1}}, [][]int{{4}}}, {[]int{5, 2, 1}, 3, [][]int{{2, 1}}, [][]int{{5}}}, {[]int{3, 2, 1}, 3, [][]int{{3}, {2, 1}}, [][]int{{2, 1}, {3}}}, // a single part, then two
		{[]int{4, 3, 2, 1}, 5, [][]int{{4, 1}, {3, 2}}, [][]int{{3, 2}, {4, 1}}}, {[]int{5, 4, 3, 2, 1}, 5, [][]int{{5}, {4, 1}, {3, 2}}, [][]int{{4, 3, 2, 1}, {5, 3, 2}, {5, 4, 1}}}, {[]int{4, 3, 2, 1}, 3, [][]int{{3}, {2, 1}}, [][]int{{4, 2, 1}, {4, 3}}}, // twice two parts
		{[]int{7, 6, 5, 4, 3, 2, 1}, 5, [][]int{{5}, {4, 1}, {3, 2}}, [][]int{{7, 6, 4, 3, 2, 1}, {7, 6, 5, 3, 2}, {7, 6, 5, 4, 1}}}, {[]int{7, 6, 5, 4, 3, 2, 1}, 3, [][]int{{3}, {2, 1}}, [][]int{{7, 6, 5, 4, 2, 1}, {7, 6, 5, 4, 3}}},
		{[]int{8, 7, 6, 5, 4}, 3, [][]int{{6}, {5}, {4}}, [][]int{{8, 7, 5, 4, 3}, {8, 7, 6, 4, 2}, {8, 7, 6, 5, 1}}}, {[]int{16, 14}, 5, [][]int{{16}, {14}}, [][]int{{14, 11}, {16, 9}}}, {[]int{30}, 3, [][]int{{30}}, [][]int{{27}}}, {[]int{17, 13}, 5, [][]int{{17}, {13}}, [][]int{{13, 12}, {17, 8}}}, // falls behind other parts
	} {
		checkBars(t, of.p, of.size, of.bars, of.left)
	}
}

// Two parts may be taken away before or behind a single one; in the list they are always behind it.
func TestBarTwoPartsInAnyTurn(t *testing.T) {
	for _, of := range []struct {
		p     []int
		size  int
		turns [][]int
		core  []int
	}{
		{[]int{3, 2, 1}, 3, [][]int{{0, 0}, {1, 0}}, nil},
		{[]int{8, 2, 1}, 3, [][]int{{1, 0, 0}, {0, 0, 0}}, []int{2}},
		{[]int{7, 2, 1}, 3, [][]int{{1, 0, 0}, {0, 0, 0}}, []int{1}},
		{[]int{6, 4, 1}, 5, [][]int{{0, 0}}, []int{1}},
		{[]int{9, 3, 2}, 5, [][]int{{0, 0}, {1, 0}}, []int{4}},
		{[]int{5, 4, 3, 2, 1}, 5, [][]int{{0, 0, 0}, {0, 1, 0}, {1, 0, 0}, {1, 1, 0}, {2, 0, 0}, {2, 1, 0}}, nil},
	} {
		for _, turn := range of.turns {
			left := of.p
			for _, k := range turn {
				less, ok := impl.TakeBar(left, of.size, k)
				wantValue(t, fmt.Sprint("cells of ", of.p, " without the bar ", k), turn, sumOf(less), sumOf(left)-of.size, ok)
				left = less
			}
			wantList(t, fmt.Sprint("left of ", of.p, " without the bars"), turn, left, of.core, true)
			checkBars(t, left, of.size, nil, nil)
		}
		checkBarCore(t, of.p, of.size, of.core, len(of.turns[0]))
	}
	eachStrict(18, func(p []int) {
		for _, size := range barSizes() {
			bars, _ := impl.BarsOf(p, size)
			if !slices.IsSortedFunc(bars, func(a, b []int) int { return len(a) - len(b) }) {
				t.Errorf("%d-bars of %v: %v, want two parts behind single ones", size, p, bars)
			}
		}
	})
}

func TestBarOwnCore(t *testing.T) {
	for _, of := range []struct {
		size int
		core []int
	}{
		{3, []int{1}}, {3, []int{2}}, {3, []int{4, 1}}, {3, []int{5, 2}}, {3, []int{7, 4, 1}}, {3, []int{8, 5, 2}}, {3, []int{10, 7, 4, 1}}, {3, []int{11, 8, 5, 2}},
		{5, []int{1}}, {5, []int{2}}, {5, []int{3}}, {5, []int{4}}, {5, []int{2, 1}}, {5, []int{3, 1}}, {5, []int{4, 2}}, {5, []int{4, 3}}, {5, []int{9, 8, 4, 3}}, {5, []int{11, 7, 6, 2, 1}}, {5, []int{14, 9, 4}}, {5, []int{14, 9, 4, 2}},
	} {
		checkBars(t, of.core, of.size, nil, nil)
		checkBarCore(t, of.core, of.size, of.core, 0)
	}
	// Not one of these is its own core.
	for _, p := range [][]int{{3}, {4}, {2, 1}, {5}, {3, 1}, {8, 2}, {7, 1}, {5, 4, 1}} {
		if isCore, ok := impl.IsBarCore(p, 3); isCore || !ok {
			t.Errorf("whether bar core for 3 of %v: %v %v, want false true", p, isCore, ok)
		}
	}
}

func TestBarEqualParts(t *testing.T) {
	for _, p := range [][]int{{1, 1}, {2, 2}, {2, 1, 1}, {2, 2, 1}, {5, 3, 3}, {5, 5, 3}, {5, 4, 4, 1}, {3, 3, 3}, {7, 7}, {8, 8}, {15, 15}, {28, 1, 1}, ones(15), ones(30), slices.Repeat([]int{5}, 6)} {
		isStrict, ok := impl.IsStrict(p)
		wantValue(t, "whether strict", p, isStrict, false, ok)
		wantNoStrict(t, p)
	}
}

// wantNoStrict calls what requires a strict partition with a list that is none.
func wantNoStrict(t *testing.T, p []int) {
	t.Helper()
	from := brief([][]int{p})
	for _, size := range []int{3, 5, 2, 0} {
		wantNoBars(t, p, size)
	}
	double, ok := impl.DoubleOf(p)
	wantNoList(t, "double", from, double, ok)
	lengths, ok := impl.BarLengths(p)
	wantNoRows(t, "bar lengths", from, lengths, ok)
	number, ok := impl.CountShifted(p)
	wantNoValue(t, "ways to put cells in", from, number, ok)
	odd, ok := impl.OddFromStrict(p)
	wantNoList(t, "odd parts", from, odd, ok)
}

// wantNoBars calls what requires a strict partition and 3 or 5 with arguments that are none.
func wantNoBars(t *testing.T, p []int, size int) {
	t.Helper()
	from := fmt.Sprint(size, brief([][]int{p}))
	bars, ok := impl.BarsOf(p, size)
	wantNoRows(t, "bars", from, bars, ok)
	for _, k := range []int{0, 1, -1} {
		left, ok := impl.TakeBar(p, size, k)
		wantNoList(t, "without a bar", from, left, ok)
	}
	core, ok := impl.BarCore(p, size)
	wantNoList(t, "bar core", from, core, ok)
	weight, ok := impl.BarWeight(p, size)
	wantNoValue(t, "bar weight", from, weight, ok)
	isCore, ok := impl.IsBarCore(p, size)
	wantNoValue(t, "whether bar core", from, isCore, ok)
}

func TestBarOtherSizes(t *testing.T) {
	for _, size := range []int{0, 1, 2, 4, 6, 7, 8, 9, 15, 30, -1, -3, -5, 1<<32 + 3, 1<<32 + 5, math.MinInt, math.MinInt + 3, math.MinInt + 5, math.MaxInt} {
		for _, p := range [][]int{nil, {1}, {2, 1}, {5, 2, 1}, {3}, {5}, {4, 3, 2, 1}, {30}} {
			wantNoBars(t, p, size)
		}
	}
}

func TestBarNumberEdges(t *testing.T) {
	list, ok := impl.AllStrict(impl.MaxStrict)
	wantValue(t, "strict partitions", impl.MaxStrict, len(list), 122, ok)
	wantList(t, "first strict partition", impl.MaxStrict, list[0], []int{24}, ok)
	wantList(t, "last strict partition", impl.MaxStrict, list[121], []int{7, 6, 5, 3, 2, 1}, ok)
	list, ok = impl.AllStrict(6)
	wantRows(t, "strict partitions", 6, list, [][]int{{6}, {5, 1}, {4, 2}, {3, 2, 1}}, ok)
	for n, want := range []int{1, 1, 1, 2, 2, 3, 4, 5, 6, 8, 10, 12, 15, 18, 22, 27, 32, 38, 46, 54, 64, 76, 89, 104, 122, 142, 165, 192, 222, 256, 296} {
		number, ok := impl.CountStrict(n)
		wantValue(t, "number of strict partitions", n, number, want, ok)
	}
	for _, n := range []int{25, 26, 30, 31, 1 << 32, math.MaxInt, -1, -24, math.MinInt} {
		list, ok := impl.AllStrict(n)
		wantNoRows(t, "strict partitions", n, list, ok)
	}
	for _, n := range []int{31, 32, 1 << 32, math.MaxInt - 1, math.MaxInt, -1, -30, math.MinInt, math.MinInt + 1} {
		number, ok := impl.CountStrict(n)
		wantNoValue(t, "number of strict partitions", n, number, ok)
	}
}

func TestBarMostShiftedCells(t *testing.T) {
	for _, of := range []struct {
		p, double []int
		ways      int
	}{
		{[]int{15}, append([]int{16}, ones(14)...), 1},
		{[]int{5, 4, 3, 2, 1}, []int{6, 6, 6, 6, 6}, 286},
		{[]int{8, 7}, []int{9, 9, 2, 2, 2, 2, 2, 2}, 429},
		{[]int{14, 1}, []int{15, 3, 1, 1, 1, 1, 1, 1, 1, 1, 1, 1, 1, 1}, 13},
		{[]int{6, 5, 4}, []int{7, 7, 7, 3, 3, 3}, 1274},
	} {
		double, ok := impl.DoubleOf(of.p)
		wantList(t, "double", of.p, double, of.double, ok)
		strict, ok := impl.FromDouble(of.double)
		wantList(t, "from the double", of.double, strict, of.p, ok)
		number, ok := impl.CountShifted(of.p)
		wantValue(t, "ways to put cells in", of.p, number, of.ways, ok)
		wantValue(t, "ways by the model", of.p, shiftedDown(of.p), of.ways, true)
	}
	for n := 16; n <= impl.MaxCells; n++ {
		for _, p := range strictPartitions(n) {
			double, ok := impl.DoubleOf(p)
			wantNoList(t, "double", p, double, ok)
			number, ok := impl.CountShifted(p)
			wantNoValue(t, "ways to put cells in", p, number, ok)
		}
	}
}

func TestBarNearlyDoubles(t *testing.T) {
	for _, q := range [][]int{
		{1}, {1, 1}, {2, 1}, {3}, {1, 1, 1}, {2, 2}, {4}, {1, 1, 1, 1}, {3, 2, 1}, {2, 2, 2}, {3, 3, 1}, {3, 3, 3}, {4, 3}, {3, 2}, {4, 2}, {5, 1}, {4, 3, 1, 1}, {4, 4, 2, 1}, {4, 4, 1, 1}, {4, 3, 2},
		{16}, ones(16), {15, 1}, {6, 6, 6, 6, 5, 1}, {5, 5, 5, 5, 5, 5}, {7, 6, 6, 6, 5}, {6, 6, 6, 6, 5}, {30}, ones(30), {15, 15}, {10, 10, 10},
	} {
		wantNotDouble(t, q)
	}
	// One cell less or one in another row, and each conjugate but for that of no cells.
	eachStrict(12, func(p []int) {
		q, _ := impl.DoubleOf(p)
		if len(q) > 0 {
			wantNotDouble(t, turned(q))
		}
		cells := draw(q)
		for _, out := range cellsToTake(cells, 1, 0) {
			less, _ := read(cells.without([]cell{out}))
			wantNotDouble(t, less)
			for _, in := range cellsToAdd(cells.without([]cell{out}), 1, 0) {
				other, _ := read(cells.without([]cell{out}).with(in))
				_, want := doublesByList(len(cells))[fmt.Sprint(other)]
				isDouble, ok := impl.IsDouble(other)
				wantValue(t, "whether double", other, isDouble, want, ok)
			}
		}
	})
	for n := 1; n < impl.MaxCells; n += 2 {
		for _, q := range partitions(n) {
			wantNotDouble(t, q)
		}
	}
}

func wantNotDouble(t *testing.T, q []int) {
	t.Helper()
	isDouble, ok := impl.IsDouble(q)
	wantValue(t, "whether double", q, isDouble, false, ok)
	strict, ok := impl.FromDouble(q)
	wantNoList(t, "from the double", q, strict, ok)
}

func TestBarLengthEdges(t *testing.T) {
	for _, of := range []struct {
		p       []int
		lengths [][]int
	}{
		{[]int{1}, [][]int{{1}}},
		{[]int{3}, [][]int{{3, 2, 1}}},
		{[]int{2, 1}, [][]int{{3, 2}, {1}}},
		{[]int{3, 1}, [][]int{{4, 3, 1}, {1}}},
		{[]int{4, 3}, [][]int{{7, 4, 3, 2}, {3, 2, 1}}},
		{[]int{5, 2, 1}, [][]int{{7, 6, 5, 2, 1}, {3, 2}, {1}}},
		{[]int{4, 3, 2, 1}, [][]int{{7, 6, 5, 4}, {5, 4, 3}, {3, 2}, {1}}},
		{[]int{16, 14}, [][]int{append([]int{30}, 16, 15, 14, 13, 12, 11, 10, 9, 8, 7, 6, 5, 4, 3, 1), falling(upTo(15)[1:])}},
		{[]int{29, 1}, [][]int{append([]int{30, 29}, falling(upTo(28)[1:])...), {1}}},
	} {
		lengths, ok := impl.BarLengths(of.p)
		wantRows(t, "bar lengths", of.p, lengths, of.lengths, ok)
	}
	// Nothing comes behind the last part.
	eachStrict(impl.MaxCells, func(p []int) {
		if len(p) == 0 {
			return
		}
		last := p[len(p)-1]
		lengths, ok := impl.BarLengths(p)
		wantValue(t, "number of lists of bar lengths", p, len(lengths), len(p), ok)
		wantList(t, "bar lengths of the last part", p, lengths[len(p)-1], falling(upTo(last + 1)[1:]), ok)
	})
}

func TestBarOddEdges(t *testing.T) {
	for _, of := range []struct{ strict, odd []int }{
		{[]int{1}, []int{1}}, {[]int{2}, ones(2)}, {[]int{4}, ones(4)}, {[]int{8}, ones(8)}, {[]int{16}, ones(16)}, {[]int{8, 4, 2, 1}, ones(15)}, {[]int{16, 8, 4, 2}, ones(30)}, {[]int{16, 8, 4, 1}, ones(29)}, {[]int{16, 8, 2, 1}, ones(27)}, // powers of 2
		{[]int{29, 1}, []int{29, 1}}, {[]int{17, 13}, []int{17, 13}}, {[]int{11, 9, 7, 3}, []int{11, 9, 7, 3}}, {[]int{5, 3, 1}, []int{5, 3, 1}}, // odd and different
		{[]int{30}, []int{15, 15}}, {[]int{28}, []int{7, 7, 7, 7}}, {[]int{24}, slices.Repeat([]int{3}, 8)}, {[]int{6, 3}, []int{3, 3, 3}}, {[]int{12, 6, 3, 2, 1}, []int{3, 3, 3, 3, 3, 3, 3, 1, 1, 1}}, {[]int{10, 7, 6}, []int{7, 5, 5, 3, 3}}, {[]int{20, 10}, slices.Repeat([]int{5}, 6)},
	} {
		odd, ok := impl.OddFromStrict(of.strict)
		wantList(t, "odd parts", of.strict, odd, of.odd, ok)
		strict, ok := impl.StrictFromOdd(of.odd)
		wantList(t, "strict partition", of.odd, strict, of.strict, ok)
	}
	for _, p := range [][]int{{2}, {30}, {2, 1}, {2, 2}, {3, 2}, {3, 2, 1}, {4, 3, 3, 1}, {5, 5, 2, 1, 1}, {6, 5, 3, 1}, {28, 1, 1}, append([]int{2}, ones(28)...), {13, 11, 6}, {15, 8, 7}} {
		strict, ok := impl.StrictFromOdd(p)
		wantNoList(t, "strict partition", p, strict, ok)
	}
}

func TestBarInvalidPartitions(t *testing.T) {
	for _, p := range notPartitions() {
		from := brief([][]int{p})
		isStrict, ok := impl.IsStrict(p)
		wantNoValue(t, "whether strict", from, isStrict, ok)
		wantNoStrict(t, p)
		isDouble, ok := impl.IsDouble(p)
		wantNoValue(t, "whether double", from, isDouble, ok)
		strict, ok := impl.FromDouble(p)
		wantNoList(t, "from the double", from, strict, ok)
		strict, ok = impl.StrictFromOdd(p)
		wantNoList(t, "strict partition", from, strict, ok)
	}
	// Different numbers that rise, end with 0, or have too great a sum.
	for _, p := range [][]int{{1, 3}, {1, 2, 3}, {5, 1, 3}, {3, 1, 0}, {5, 2, 1, 0}, {1, 0}, {7, 6, 5, 4, 3, 2, 1, 0}, {8, 7, 6, 5, 4, 1}, {29, 2}, {16, 8, 4, 2, 1}, {31}, {2, 1, -1}, {3, -3}} {
		isStrict, ok := impl.IsStrict(p)
		wantNoValue(t, "whether strict", p, isStrict, ok)
		wantNoStrict(t, p)
		isDouble, ok := impl.IsDouble(p)
		wantNoValue(t, "whether double", p, isDouble, ok)
		strict, ok := impl.StrictFromOdd(p)
		wantNoList(t, "strict partition", p, strict, ok)
	}
	for _, p := range [][]int{ones(31), {31}, {29, 1, 1}, {1, 3}, {3, 1, 0}, {3, -1}, {-1}, {math.MaxInt}, {math.MinInt + 1}} {
		strict, ok := impl.StrictFromOdd(p)
		wantNoList(t, "strict partition", p, strict, ok)
	}
}
