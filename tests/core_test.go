package tests

import (
	"fmt"
	"slices"
	"testing"

	"loop.example/g01136/impl"
)

// Promise 3: ordinary partitions, with all numbers of runners, against the rims and border words of the model.

func TestCoreExample(t *testing.T) {
	p := []int{4, 2, 1}
	cells, ok := impl.RimCells(p, 3)
	wantRows(t, "rim cells", p, cells, [][]int{{1, 0}}, ok)
	left, sign, ok := impl.TakeRim(p, 3, 0)
	wantList(t, "rim taken", p, left, []int{4}, ok)
	wantValue(t, "sign of the rim", p, sign, -1, ok)
	left, sign, ok = impl.TakeRim(left, 3, 0)
	wantList(t, "rim taken", "4", left, []int{1}, ok)
	wantValue(t, "sign of the rim", "4", sign, 1, ok)
	core, ok := impl.CoreOf(p, 3)
	wantList(t, "core", p, core, []int{1}, ok)
	weight, ok := impl.WeightOf(p, 3)
	wantValue(t, "weight", p, weight, 2, ok)
	quotient, ok := impl.QuotientOf(p, 3)
	wantRows(t, "quotient", p, quotient, [][]int{{1, 1}, {}, {}}, ok)
	again, ok := impl.FromCore([]int{1}, [][]int{{1, 1}, {}, {}})
	wantList(t, "partition with the core 1 and the quotient", quotient, again, p, ok)
	sign, ok = impl.SignOf(p, 3)
	wantValue(t, "sign", p, sign, -1, ok)
	trail, ok := impl.RunOf(p, 3, []int{0, 0})
	wantRows(t, "run", p, trail, [][]int{{4, 2, 1}, {4}, {1}}, ok)
	runs, ok := impl.CountRuns(p, 3)
	wantValue(t, "runs", p, runs, 1, ok)
	divisible, ok := impl.HooksDivisible(p, 3)
	wantValue(t, "divisible hooks", p, divisible, 2, ok)
	added, ok := impl.AddedRims([]int{1}, 3)
	wantRows(t, "added rims", "1", added, [][]int{{4}, {2, 2}, {1, 1, 1, 1}}, ok)
	same, ok := impl.SameBlock(p, []int{7}, 3)
	wantValue(t, "same block as 7", p, same, true, ok)
	same, ok = impl.SameBlock(p, []int{6, 1}, 3)
	wantValue(t, "same block as 6 1", p, same, false, ok)
	block, ok := impl.BlockOf([]int{1}, 2, 1)
	wantRows(t, "block", "1", block, [][]int{{3}, {1, 1, 1}}, ok)
}

func TestCoreRims(t *testing.T) {
	eachSized(func(p []int, size int) {
		from := fmt.Sprint(p, " and ", size)
		rims := rimTableOf(p)[size]
		var want [][]int
		for k, rim := range rims {
			want = append(want, []int{rim.at.row, rim.at.column})
			left, sign, ok := impl.TakeRim(p, size, k)
			wantList(t, fmt.Sprint("rim taken ", k), from, left, rim.left, ok)
			wantValue(t, fmt.Sprint("sign of the rim ", k), from, sign, rim.sign, ok)
		}
		got, ok := impl.RimCells(p, size)
		wantRows(t, "rim cells", from, got, want, ok)
		isCore, ok := impl.IsCore(p, size)
		wantValue(t, "is core", from, isCore, len(rims) == 0, ok)
		for _, k := range []int{len(rims), len(rims) + 1, -1, -1 - len(rims)} {
			left, sign, ok := impl.TakeRim(p, size, k)
			wantNoList(t, fmt.Sprint("rim taken ", k), from, left, ok)
			wantNoValue(t, fmt.Sprint("sign of the rim ", k), from, sign, ok)
		}
	})
}

func TestCoreAddedRims(t *testing.T) {
	for size := 2; size <= impl.MaxRunners; size++ {
		for _, cells := range []int{2, 3, 4, 5, 6, 7, 8, 9, 10, 11, 12, 13, 14, 21, 28, 29, 30} {
			added := addedByList(cells, size)
			if cells < size {
				continue
			}
			for _, p := range partitions(cells - size) {
				got, ok := impl.AddedRims(p, size)
				wantRows(t, fmt.Sprint("added rims of ", size, " cells"), p, got, added[fmt.Sprint(p)], ok)
			}
		}
	}
}

func TestCoreOfAllPartitions(t *testing.T) {
	eachPartition(func(p []int, size int) {
		from := fmt.Sprint(p, " and ", size)
		want := descentOf(p, size)
		if want.differ {
			t.Errorf("the runs of %s differ", from)
		}
		core, ok := impl.CoreOf(p, size)
		wantList(t, "core", from, core, want.core, ok)
		isCore, ok := impl.IsCore(core, size)
		wantValue(t, "core is core", from, isCore, true, ok)
		weight, ok := impl.WeightOf(p, size)
		wantValue(t, "weight", from, weight, want.weight, ok)
		sign, ok := impl.SignOf(p, size)
		wantValue(t, "sign", from, sign, want.sign, ok)
		runs, ok := impl.CountRuns(p, size)
		if want.runs > 1000000000000 {
			wantNoValue(t, "runs", from, runs, ok)
		} else {
			wantValue(t, "runs", from, runs, want.runs, ok)
		}
	})
}

func TestCoreQuotients(t *testing.T) {
	eachPartition(func(p []int, size int) {
		from := fmt.Sprint(p, " and ", size)
		want := quotientByBorder(p, size)
		got, ok := impl.QuotientOf(p, size)
		wantRows(t, "quotient", from, got, want, ok)
		again, ok := impl.FromCore(descentOf(p, size).core, want)
		wantList(t, "partition with core and quotient", from, again, p, ok)
	})
}

func TestCoreHooksDivisible(t *testing.T) {
	eachSized(func(p []int, size int) {
		from := fmt.Sprint(p, " and ", size)
		want := 0
		for _, hook := range hookList(p) {
			if hook%size == 0 {
				want++
			}
		}
		got, ok := impl.HooksDivisible(p, size)
		wantValue(t, "divisible hooks", from, got, want, ok)
		weight, ok := impl.WeightOf(p, size)
		wantValue(t, "weight", from, weight, want, ok)
	})
}

// Cores are those partitions of which no hook is divided, and each is its own core.
func TestCoreCores(t *testing.T) {
	eachSized(func(p []int, size int) {
		from := fmt.Sprint(p, " and ", size)
		want := isCoreOf(p, size)
		got, ok := impl.IsCore(p, size)
		wantValue(t, "is core", from, got, want, ok)
		core, ok := impl.CoreOf(p, size)
		wantValue(t, "is its own core", from, slices.Equal(core, p), want, ok)
	})
}

// All choices are made, down to the core, with what the program itself leaves.
func TestCoreAllRuns(t *testing.T) {
	for n := range 13 {
		for _, p := range partitions(n) {
			for size := 2; size <= impl.MaxRunners; size++ {
				way := &walk{t: t, p: p, size: size}
				way.from(p, nil, [][]int{p}, 1)
				runs, ok := impl.CountRuns(p, size)
				wantValue(t, "runs", fmt.Sprint(p, " and ", size), runs, way.ends, ok)
			}
		}
	}
}

// A walk goes all ways down from a partition and counts where they end.
type walk struct {
	t    *testing.T
	p    []int
	size int
	ends int
}

func (way *walk) from(left, choices []int, trail [][]int, sign int) {
	t, from := way.t, fmt.Sprint(way.p, " and ", way.size, " by ", choices)
	got, ok := impl.RunOf(way.p, way.size, choices)
	wantRows(t, "run", from, got, trail, ok)
	gotSign, ok := impl.SignOfRun(way.p, way.size, choices)
	wantValue(t, "sign of run", from, gotSign, sign, ok)
	rims := rimTableOf(left)[way.size]
	for k, rim := range rims {
		taken, rimSign, ok := impl.TakeRim(left, way.size, k)
		wantList(t, "rim taken", from, taken, rim.left, ok)
		way.from(rim.left, append(slices.Clone(choices), k), append(slices.Clone(trail), rim.left), sign*rimSign)
	}
	got, ok = impl.RunOf(way.p, way.size, append(slices.Clone(choices), len(rims)))
	wantNoRows(t, "run behind the last rim", from, got, ok)
	if len(rims) > 0 {
		return
	}
	way.ends++
	core, ok := impl.CoreOf(way.p, way.size)
	wantList(t, "core", from, core, left, ok)
	weight, ok := impl.WeightOf(way.p, way.size)
	wantValue(t, "weight", from, weight, len(choices), ok)
	whole, ok := impl.SignOf(way.p, way.size)
	wantValue(t, "sign", from, whole, sign, ok)
}

// Runs of partitions with many cells take away the last rim, or the first and the last one in turn.
func TestCoreLongRuns(t *testing.T) {
	eachSized(func(p []int, size int) {
		for _, turn := range []int{1, 2, 3} {
			checkLongRun(t, p, size, turn)
		}
	})
}

func checkLongRun(t *testing.T, p []int, size, turn int) {
	t.Helper()
	trail, sign := [][]int{p}, 1
	var choices []int
	for left := p; len(rimTableOf(left)[size]) > 0; left = trail[len(trail)-1] {
		rims := rimTableOf(left)[size]
		k := 0
		if len(choices)%turn == 0 {
			k = len(rims) - 1
		}
		choices = append(choices, k)
		trail = append(trail, rims[k].left)
		sign *= rims[k].sign
	}
	for steps := range len(choices) + 1 {
		from := fmt.Sprint(p, " and ", size, " by ", choices[:steps])
		got, ok := impl.RunOf(p, size, choices[:steps])
		wantRows(t, "run", from, got, trail[:steps+1], ok)
	}
	from := fmt.Sprint(p, " and ", size, " by ", choices)
	got, ok := impl.SignOfRun(p, size, choices)
	wantValue(t, "sign of run", from, got, sign, ok)
	whole, ok := impl.SignOf(p, size)
	wantValue(t, "sign", from, whole, sign, ok)
}

// Each core and quotient of few cells is that of one partition.
func TestCoreFromAllQuotients(t *testing.T) {
	for size := 2; size <= impl.MaxRunners; size++ {
		for cells := range 8 {
			for _, core := range partitions(cells) {
				if isCoreOf(core, size) {
					checkQuotientsWith(t, core, size)
				}
			}
		}
	}
}

func checkQuotientsWith(t *testing.T, core []int, size int) {
	t.Helper()
	made := map[string]bool{}
	for weight := range 4 {
		for _, quotient := range quotients(size, weight) {
			from := fmt.Sprint(core, " and ", quotient)
			p, ok := impl.FromCore(core, quotient)
			if !ok || cellsIn(p) != cellsIn(core)+size*weight || made[fmt.Sprint(p)] {
				t.Errorf("partition with %s: %v %v", from, p, ok)
			}
			made[fmt.Sprint(p)] = true
			got, ok := impl.QuotientOf(p, size)
			wantRows(t, "quotient again", from, got, quotient, ok)
			again, ok := impl.CoreOf(p, size)
			wantList(t, "core again", from, again, core, ok)
		}
	}
}

func TestCoreSameBlocks(t *testing.T) {
	var list [][]int
	for n := range 9 {
		list = append(list, partitions(n)...)
	}
	list = append(list, []int{30}, ones(30), []int{29, 1}, []int{15, 15}, []int{29}, []int{8, 7, 6, 5, 4})
	for size := 2; size <= impl.MaxRunners; size++ {
		for _, p := range list {
			for _, q := range list {
				want := cellsIn(p) == cellsIn(q) && slices.Equal(descentOf(p, size).core, descentOf(q, size).core)
				got, ok := impl.SameBlock(p, q, size)
				wantValue(t, fmt.Sprint("same block as ", q, " for ", size), p, got, want, ok)
			}
		}
	}
}

func TestCoreBlocks(t *testing.T) {
	for size := 2; size <= impl.MaxRunners; size++ {
		var blocks []map[string][][]int
		for n := range impl.MaxCells + 1 {
			blocks = append(blocks, blocksByList(n, size))
		}
		for n := range impl.MaxCells + 1 {
			for _, core := range partitions(n) {
				if descentOf(core, size).weight > 0 {
					continue
				}
				for weight := range 5 {
					from := fmt.Sprint(core, " for ", size, " and the weight ", weight)
					got, ok := impl.BlockOf(core, size, weight)
					if cells := n + size*weight; cells <= impl.MaxCells {
						wantRows(t, "block", from, got, blocks[cells][fmt.Sprint(core)], ok)
					} else {
						wantNoRows(t, "block", from, got, ok)
					}
				}
			}
		}
	}
}
