package tests

import (
	"math"
	"slices"
	"testing"

	"loop.example/levellingnet/impl"
)

// starAt returns a run from a node to each other one, or from each other one to it, with the least and the greatest rises and weights in turn.
func starAt(n int, node int, away bool) []impl.Run {
	var runs []impl.Run
	for _, ends := range endsOf(n) {
		if away && ends[0] == node || !away && ends[1] == node {
			runs = append(runs, run(ends[0], ends[1], impl.RiseMax, 1), run(ends[0], ends[1], -impl.RiseMax, impl.WeightMax))
		}
	}
	return runs
}

// limitNets have all runs between the same two nodes, or at one node, with rises and weights at the limits.
func limitNets() []net {
	var list []net
	for n := 2; n <= impl.NodesMax; n++ {
		for _, ends := range endsOf(n) {
			for _, rise := range []int{-impl.RiseMax, impl.RiseMax} {
				for _, weight := range []int{1, impl.WeightMax} {
					r := run(ends[0], ends[1], rise, weight)
					list = append(list, net{n, []impl.Run{r}}, net{n, repeated(r, impl.RunsMax)})
				}
			}
		}
		for node := range n {
			list = append(list, net{n, starAt(n, node, true)}, net{n, starAt(n, node, false)})
		}
	}
	return list
}

func allMatrixNets() []net {
	return append(limitNets(), allTreeNets()...)
}

// eachNetRun calls a function for each run of many nets.
func eachNetRun(call func(v net, k int)) {
	for _, v := range allMatrixNets() {
		for k := range v.runs {
			call(v, k)
		}
	}
}

func isBetween(r impl.Run, a int, b int) bool {
	return r.From == a && r.To == b || r.From == b && r.To == a
}

func weightBetween(runs []impl.Run, a int, b int) int {
	sum := 0
	for _, r := range runs {
		if isBetween(r, a, b) {
			sum += r.Weight
		}
	}
	return sum
}

func weightAt(runs []impl.Run, node int) int {
	sum := 0
	for _, r := range runs {
		if r.From == node || r.To == node {
			sum += r.Weight
		}
	}
	return sum
}

func wantedMatrix(v net) [][]int {
	return square(v.n-1, func(i int, j int) int {
		if i == j {
			return weightAt(v.runs, i+1)
		}
		return -weightBetween(v.runs, i+1, j+1)
	})
}

func wantedSource(v net) []int {
	var sums []int
	for node := 1; node < v.n; node++ {
		sum := 0
		for _, r := range v.runs {
			if r.To == node {
				sum += r.Weight * r.Rise
			}
			if r.From == node {
				sum -= r.Weight * r.Rise
			}
		}
		sums = append(sums, sum)
	}
	return sums
}

func wantedWithout(v net, k int) net {
	return net{v.n, slices.Delete(slices.Clone(v.runs), k, k+1)}
}

// wantedMerged looks up each node among those that stay.
func wantedMerged(v net, k int) net {
	goes := max(v.runs[k].From, v.runs[k].To)
	stays := v.runs[k].From + v.runs[k].To - goes
	kept := without(firstIndexes(v.n), goes)
	number := func(node int) int {
		if node == goes {
			node = stays
		}
		return slices.Index(kept, node)
	}
	merged := net{n: v.n - 1}
	for _, r := range v.runs {
		if !isBetween(r, stays, goes) {
			merged.runs = append(merged.runs, run(number(r.From), number(r.To), r.Rise, r.Weight))
		}
	}
	return merged
}

// mergedOf wants NetMerge to succeed unless the net has two nodes.
func mergedOf(t *testing.T, v net, k int) (net, bool) {
	t.Helper()
	n, runs, fine := impl.NetMerge(v.n, v.runs, k)
	if fine != (v.n > 2) {
		t.Fatalf("NetMerge(%d, %v, %d) is %d, %v, %v", v.n, v.runs, k, n, runs, fine)
	}
	if !fine && (n != 0 || len(runs) != 0) {
		t.Errorf("NetMerge(%d, %v, %d) is %d, %v beside false", v.n, v.runs, k, n, runs)
	}
	if want := wantedMerged(v, k); fine && (n != want.n || !slices.Equal(runs, want.runs)) {
		t.Fatalf("NetMerge(%d, %v, %d) is %d, %v, wanted %d, %v", v.n, v.runs, k, n, runs, want.n, want.runs)
	}
	return net{n, runs}, fine
}

func withoutOf(t *testing.T, v net, k int) net {
	t.Helper()
	runs, fine := impl.NetWithout(v.n, v.runs, k)
	if want := wantedWithout(v, k); !slices.Equal(runs, want.runs) || !fine {
		t.Fatalf("NetWithout(%d, %v, %d) is %v, %v, wanted %v", v.n, v.runs, k, runs, fine, want.runs)
	}
	return net{v.n, runs}
}

func sourceOf(t *testing.T, v net) []int {
	t.Helper()
	sums, fine := impl.NetSource(v.n, v.runs)
	if !slices.Equal(sums, wantedSource(v)) || !fine {
		t.Fatalf("NetSource(%d, %v) is %v, %v, wanted %v", v.n, v.runs, sums, fine, wantedSource(v))
	}
	return sums
}

func TestNetMatrixCases(t *testing.T) {
	heavy := impl.RunsMax * impl.WeightMax
	triangle := []impl.Run{run(0, 1, 5, 1), run(2, 1, 2, 2), run(0, 2, 4, 3)}
	cases := []struct {
		name  string
		n     int
		runs  []impl.Run
		want  [][]int
		trees int
	}{
		{"no runs", 2, nil, [][]int{{0}}, 0},
		{"no runs", 4, []impl.Run{}, [][]int{{0, 0, 0}, {0, 0, 0}, {0, 0, 0}}, 0},
		{"a run from the node 0", 2, []impl.Run{run(0, 1, -7, 4)}, [][]int{{4}}, 4},
		{"a run to the node 0", 2, []impl.Run{run(1, 0, -7, 4)}, [][]int{{4}}, 4},
		{"a run from and one to the node 0", 2, []impl.Run{run(1, 0, 3, 4), run(0, 1, 3, 5)}, [][]int{{9}}, 9},
		{"most runs of two nodes", 2, repeated(run(1, 0, impl.RiseMax, impl.WeightMax), impl.RunsMax), [][]int{{heavy}}, heavy},
		{"a run beside the node 0", 3, []impl.Run{run(2, 1, 7, 4)}, [][]int{{4, -4}, {-4, 4}}, 0},
		{"runs in both directions", 3, []impl.Run{run(1, 2, 7, 4), run(2, 1, 7, 3)}, [][]int{{7, -7}, {-7, 7}}, 0},
		{"most runs beside the node 0", 3, repeated(run(1, 2, 0, impl.WeightMax), impl.RunsMax), [][]int{{heavy, -heavy}, {-heavy, heavy}}, 0},
		{"a node without runs", 3, []impl.Run{run(0, 2, 7, 4)}, [][]int{{0, 0}, {0, 4}}, 0},
		{"the last node without runs", 3, []impl.Run{run(1, 0, 7, 4)}, [][]int{{4, 0}, {0, 0}}, 0},
		{"a triangle", 3, triangle, [][]int{{3, -2}, {-2, 5}}, 11},
		{"a triangle and a node", 4, triangle, [][]int{{3, -2, 0}, {-2, 5, 0}, {0, 0, 0}}, 0},
		{"a triangle with a double side", 3, append(slices.Clone(triangle), run(1, 2, 0, 6)), [][]int{{9, -8}, {-8, 11}}, 35},
		{"a chain", 4, []impl.Run{run(0, 1, 1, 2), run(1, 2, 1, 3), run(2, 3, 1, 5)}, [][]int{{5, -3, 0}, {-3, 8, -5}, {0, -5, 5}}, 30},
		{"a chain with the node 0 inside", 4, []impl.Run{run(3, 0, 1, 2), run(0, 2, 1, 3), run(1, 2, 1, 5)}, [][]int{{5, -5, 0}, {-5, 8, 0}, {0, 0, 2}}, 30},
		{"a star at the node 0", 4, []impl.Run{run(0, 1, 1, 2), run(2, 0, 1, 3), run(0, 3, 1, 5)}, [][]int{{2, 0, 0}, {0, 3, 0}, {0, 0, 5}}, 30},
		{"two parts", 4, []impl.Run{run(0, 2, 1, 2), run(3, 1, 1, 3)}, [][]int{{3, 0, -3}, {0, 2, 0}, {-3, 0, 3}}, 0},
		{"all pairs of 4", 4, complete(4), [][]int{{3, -1, -1}, {-1, 3, -1}, {-1, -1, 3}}, 16},
		{"all pairs of 5", 5, complete(5), [][]int{{4, -1, -1, -1}, {-1, 4, -1, -1}, {-1, -1, 4, -1}, {-1, -1, -1, 4}}, 125},
		{"a ring", 6, ring(6), [][]int{{2, -1, 0, 0, 0}, {-1, 2, -1, 0, 0}, {0, -1, 2, -1, 0}, {0, 0, -1, 2, -1}, {0, 0, 0, -1, 2}}, 6},
		{"an octahedron", 6, octahedron(), [][]int{{4, -1, -1, 0, -1}, {-1, 4, -1, -1, 0}, {-1, -1, 4, -1, -1}, {0, -1, -1, 4, -1}, {-1, 0, -1, -1, 4}}, 384},
		{"a heavy octahedron", 6, withWeights(octahedron(), constant(9)), [][]int{{36, -9, -9, 0, -9}, {-9, 36, -9, -9, 0}, {-9, -9, 36, -9, -9}, {0, -9, -9, 36, -9}, {-9, 0, -9, -9, 36}}, 384 * 9 * 9 * 9 * 9 * 9},
		{"most runs of many nodes", 6, repeated(run(5, 4, 0, impl.WeightMax), impl.RunsMax), [][]int{{0, 0, 0, 0, 0}, {0, 0, 0, 0, 0}, {0, 0, 0, 0, 0}, {0, 0, 0, heavy, -heavy}, {0, 0, 0, -heavy, heavy}}, 0},
	}
	for _, c := range cases {
		if got, fine := impl.NetMatrix(c.n, c.runs); !sameRows(got, c.want) || !fine {
			t.Errorf("%s: NetMatrix is %v, %v, wanted %v", c.name, got, fine, c.want)
		}
		if got := impl.NetTrees(c.n, c.runs); got != c.trees {
			t.Errorf("%s: NetTrees is %d, wanted %d", c.name, got, c.trees)
		}
	}
}

func TestPromise45(t *testing.T) {
	for _, v := range allMatrixNets() {
		m, fine := impl.NetMatrix(v.n, v.runs)
		if !sameRows(m, wantedMatrix(v)) || !fine {
			t.Fatalf("NetMatrix(%d, %v) is %v, %v, wanted %v", v.n, v.runs, m, fine, wantedMatrix(v))
		}
		if turned, good := impl.MatTurn(m); !sameRows(turned, m) || !good {
			t.Errorf("NetMatrix(%d, %v) is %v, but turned %v, %v", v.n, v.runs, m, turned, good)
		}
		for i, row := range m {
			if sumOf(row) != weightBetween(v.runs, i+1, 0) {
				t.Errorf("NetMatrix(%d, %v) is %v: the row %d has the sum %d", v.n, v.runs, m, i, sumOf(row))
			}
		}
		trees := impl.NetTrees(v.n, v.runs)
		if det, good := impl.MatDet(m); det != trees || trees != wantedDet(wantedMatrix(v)) || !good {
			t.Errorf("NetTrees(%d, %v) is %d, but MatDet %d, %v", v.n, v.runs, trees, det, good)
		}
	}
}

func TestPromise46(t *testing.T) {
	whole, parted := 0, 0
	for _, v := range allMatrixNets() {
		trees := impl.NetTrees(v.n, v.runs)
		if trees != wantedWeight(v) || trees != impl.TreeWeight(v.n, v.runs) {
			t.Fatalf("NetTrees(%d, %v) is %d, but TreeWeight %d, wanted %d", v.n, v.runs, trees, impl.TreeWeight(v.n, v.runs), wantedWeight(v))
		}
		if (trees > 0) != impl.NetWhole(v.n, v.runs) {
			t.Errorf("NetTrees(%d, %v) is %d, but NetWhole %v", v.n, v.runs, trees, trees <= 0)
		}
		if trees > 0 {
			whole++
		} else {
			parted++
		}
	}
	if whole < 1000 || parted < 1000 {
		t.Errorf("only %d nets are whole, and %d not", whole, parted)
	}
}

func TestNetMergeCases(t *testing.T) {
	triangle := []impl.Run{run(0, 1, 5, 1), run(2, 1, 2, 2), run(0, 2, 4, 3)}
	double := append(slices.Clone(triangle), run(1, 2, 7, 4), run(2, 1, 8, 9))
	pairs := []impl.Run{run(0, 1, 1, 1), run(0, 2, 2, 2), run(3, 0, 3, 3), run(1, 2, 4, 4), run(3, 1, 5, 5), run(2, 3, 6, 6)}
	far := []impl.Run{run(5, 0, impl.RiseMax, 9), run(4, 1, -impl.RiseMax, 1), run(2, 3, 7, 2), run(1, 5, 8, 3), run(0, 4, 9, 4)}
	cases := []struct {
		name string
		n    int
		runs []impl.Run
		k    int
		want []impl.Run
	}{
		{"from the node 0", 3, triangle, 0, []impl.Run{run(1, 0, 2, 2), run(0, 1, 4, 3)}},
		{"from the greater number", 3, triangle, 1, []impl.Run{run(0, 1, 5, 1), run(0, 1, 4, 3)}},
		{"from the node 0 to the last one", 3, triangle, 2, []impl.Run{run(0, 1, 5, 1), run(0, 1, 2, 2)}},
		{"other runs between both", 3, double, 1, []impl.Run{run(0, 1, 5, 1), run(0, 1, 4, 3)}},
		{"other runs between both", 3, double, 3, []impl.Run{run(0, 1, 5, 1), run(0, 1, 4, 3)}},
		{"other runs between both", 3, double, 4, []impl.Run{run(0, 1, 5, 1), run(0, 1, 4, 3)}},
		{"the only run", 3, []impl.Run{run(2, 0, 9, 9)}, 0, nil},
		{"all runs between both", 3, repeated(run(1, 2, 9, 9), impl.RunsMax), 7, nil},
		{"all runs of a great net between both", 6, repeated(run(5, 0, 9, 9), impl.RunsMax), 11, nil},
		{"greater numbers than both", 4, pairs, 0, []impl.Run{run(0, 1, 2, 2), run(2, 0, 3, 3), run(0, 1, 4, 4), run(2, 0, 5, 5), run(1, 2, 6, 6)}},
		{"a number between both", 4, pairs, 1, []impl.Run{run(0, 1, 1, 1), run(2, 0, 3, 3), run(1, 0, 4, 4), run(2, 1, 5, 5), run(0, 2, 6, 6)}},
		{"to the node 0", 4, pairs, 2, []impl.Run{run(0, 1, 1, 1), run(0, 2, 2, 2), run(1, 2, 4, 4), run(0, 1, 5, 5), run(2, 0, 6, 6)}},
		{"beside the node 0", 4, pairs, 3, []impl.Run{run(0, 1, 1, 1), run(0, 1, 2, 2), run(2, 0, 3, 3), run(2, 1, 5, 5), run(1, 2, 6, 6)}},
		{"from the last node", 4, pairs, 4, []impl.Run{run(0, 1, 1, 1), run(0, 2, 2, 2), run(1, 0, 3, 3), run(1, 2, 4, 4), run(2, 1, 6, 6)}},
		{"both last nodes", 4, pairs, 5, []impl.Run{run(0, 1, 1, 1), run(0, 2, 2, 2), run(2, 0, 3, 3), run(1, 2, 4, 4), run(2, 1, 5, 5)}},
		{"the first and the last node", 6, far, 0, []impl.Run{run(4, 1, -impl.RiseMax, 1), run(2, 3, 7, 2), run(1, 0, 8, 3), run(0, 4, 9, 4)}},
		{"to a number inside", 6, far, 1, []impl.Run{run(4, 0, impl.RiseMax, 9), run(2, 3, 7, 2), run(1, 4, 8, 3), run(0, 1, 9, 4)}},
		{"both numbers inside", 6, far, 2, []impl.Run{run(4, 0, impl.RiseMax, 9), run(3, 1, -impl.RiseMax, 1), run(1, 4, 8, 3), run(0, 3, 9, 4)}},
	}
	for _, c := range cases {
		if n, runs, fine := impl.NetMerge(c.n, c.runs, c.k); n != c.n-1 || !slices.Equal(runs, c.want) || !fine {
			t.Errorf("%s: NetMerge(%d, %v, %d) is %d, %v, %v, wanted %v", c.name, c.n, c.runs, c.k, n, runs, fine, c.want)
		}
	}
}

// TestMergeOfTwoNodes has all runs of nets of two nodes.
func TestMergeOfTwoNodes(t *testing.T) {
	tried := 0
	eachNetRun(func(v net, k int) {
		if v.n > 2 {
			return
		}
		tried++
		if n, runs, fine := impl.NetMerge(v.n, v.runs, k); n != 0 || len(runs) != 0 || fine {
			t.Errorf("NetMerge(%d, %v, %d) is %d, %v, %v", v.n, v.runs, k, n, runs, fine)
		}
	})
	if tried < 500 {
		t.Errorf("only %d runs were tried", tried)
	}
}

func TestPromise47(t *testing.T) {
	merges := 0
	eachNetRun(func(v net, k int) {
		fewer := withoutOf(t, v, k)
		merged, fine := mergedOf(t, v, k)
		if !fine {
			return
		}
		merges++
		all, left, joined := impl.NetTrees(v.n, v.runs), impl.NetTrees(fewer.n, fewer.runs), impl.NetTrees(merged.n, merged.runs)
		if all != left+v.runs[k].Weight*joined || left < 0 || joined < 0 {
			t.Errorf("NetTrees(%d, %v) is %d, but %d without the run %d, and %d merged", v.n, v.runs, all, left, k, joined)
		}
	})
	if merges < 10000 {
		t.Errorf("only %d runs were merged", merges)
	}
}

func TestPromise48(t *testing.T) {
	whole, parted := 0, 0
	eachNetRun(func(v net, k int) {
		merged, fine := mergedOf(t, v, k)
		if !fine {
			return
		}
		want := wantedWhole(v.n, v.runs)
		if impl.NetWhole(merged.n, merged.runs) != want || impl.NetWhole(v.n, v.runs) != want {
			t.Errorf("NetWhole(%d, %v) is %v for the merged run %d of %d, %v", merged.n, merged.runs, !want, k, v.n, v.runs)
		}
		if want {
			whole++
		} else {
			parted++
		}
		checkMergedFits(t, v, k)
	})
	if whole < 5000 || parted < 2000 {
		t.Errorf("only %d merged nets are whole, and %d not", whole, parted)
	}
}

// checkMergedFits gives both nodes of a run the same height.
func checkMergedFits(t *testing.T, v net, k int) {
	t.Helper()
	goes := max(v.runs[k].From, v.runs[k].To)
	for _, heights := range heightsFor(v.n) {
		heights[v.runs[k].From] = heights[v.runs[k].To]
		level := net{v.n, fittingRuns(v.runs, heights)}
		merged, _ := mergedOf(t, level, k)
		if !impl.NetFits(merged.n, merged.runs, without(heights, goes)) {
			t.Errorf("NetFits(%d, %v, %v) does not hold, but %v fit with the run %d not merged", merged.n, merged.runs, without(heights, goes), heights, k)
		}
	}
}

func TestNetSourceCases(t *testing.T) {
	most := impl.RunsMax * impl.WeightMax * impl.RiseMax
	triangle := []impl.Run{run(0, 1, 5, 1), run(2, 1, 2, 2), run(0, 2, 4, 3)}
	cases := []struct {
		name string
		n    int
		runs []impl.Run
		want []int
	}{
		{"no runs", 2, nil, []int{0}},
		{"no runs", 6, []impl.Run{}, []int{0, 0, 0, 0, 0}},
		{"from the node 0", 2, []impl.Run{run(0, 1, 5, 3)}, []int{15}},
		{"to the node 0", 2, []impl.Run{run(1, 0, 5, 3)}, []int{-15}},
		{"down from the node 0", 2, []impl.Run{run(0, 1, -5, 3)}, []int{-15}},
		{"down to the node 0", 2, []impl.Run{run(1, 0, -5, 3)}, []int{15}},
		{"beside the node 0", 3, []impl.Run{run(1, 2, 5, 3)}, []int{-15, 15}},
		{"beside the node 0", 3, []impl.Run{run(2, 1, 5, 3)}, []int{15, -15}},
		{"opposite runs", 3, []impl.Run{run(2, 1, 5, 3), run(1, 2, 5, 3)}, []int{0, 0}},
		{"opposite runs of other weights", 3, []impl.Run{run(2, 1, 5, 3), run(1, 2, 5, 4)}, []int{-5, 5}},
		{"equal runs", 2, repeated(run(0, 1, 7, 2), 5), []int{70}},
		{"a triangle", 3, triangle, []int{9, 8}},
		{"a triangle and a node", 4, triangle, []int{9, 8, 0}},
		{"rises of 0", 3, fittingRuns(triangle, []int{8, 8, 8}), []int{0, 0}},
		{"a star", 4, []impl.Run{run(0, 1, 1, 2), run(2, 0, 1, 3), run(0, 3, -1, 5)}, []int{2, -3, -5}},
		{"a chain", 4, []impl.Run{run(0, 1, 10, 2), run(1, 2, 100, 3), run(2, 3, 1000, 5)}, []int{-280, -4700, 5000}},
		{"the greatest sum", 2, repeated(run(0, 1, impl.RiseMax, impl.WeightMax), impl.RunsMax), []int{most}},
		{"the least sum", 2, repeated(run(0, 1, -impl.RiseMax, impl.WeightMax), impl.RunsMax), []int{-most}},
		{"the greatest and the least sum", 6, repeated(run(5, 3, impl.RiseMax, impl.WeightMax), impl.RunsMax), []int{0, 0, most, 0, -most}},
		{"the least rise and weight", 2, []impl.Run{run(1, 0, -impl.RiseMax, 1)}, []int{impl.RiseMax}},
	}
	for _, c := range cases {
		if got, fine := impl.NetSource(c.n, c.runs); !slices.Equal(got, c.want) || !fine {
			t.Errorf("%s: NetSource is %v, %v, wanted %v", c.name, got, fine, c.want)
		}
	}
}

func TestPromise49(t *testing.T) {
	for _, v := range allMatrixNets() {
		sourceOf(t, v)
		m, _ := impl.NetMatrix(v.n, v.runs)
		for _, heights := range heightsFor(v.n) {
			fitting := net{v.n, fittingRuns(v.runs, heights)}
			got := sourceOf(t, fitting)
			if want, fine := impl.MatApply(m, raised(heights, -heights[0])[1:]); !slices.Equal(got, want) || !fine {
				t.Errorf("NetSource(%d, %v) is %v, but MatApply %v, %v for the heights %v", v.n, fitting.runs, got, want, fine, heights)
			}
		}
	}
}

func TestNetWithoutCases(t *testing.T) {
	runs := []impl.Run{run(0, 1, 5, 1), run(2, 1, 2, 2), run(0, 2, 4, 3), run(2, 1, 2, 2)}
	first, second, third := runs[0], runs[1], runs[2]
	cases := []struct {
		n    int
		runs []impl.Run
		k    int
		want []impl.Run
	}{
		{3, runs, 0, []impl.Run{second, third, second}},
		{3, runs, 1, []impl.Run{first, third, second}},
		{3, runs, 2, []impl.Run{first, second, second}},
		{3, runs, 3, []impl.Run{first, second, third}},
		{3, runs[:1], 0, nil},
		{6, []impl.Run{run(5, 0, -impl.RiseMax, 9)}, 0, nil},
		{2, runs[:1], 0, nil},
		{2, repeated(first, impl.RunsMax), 0, repeated(first, impl.RunsMax-1)},
		{2, repeated(first, impl.RunsMax), impl.RunsMax - 1, repeated(first, impl.RunsMax-1)},
		{3, append([]impl.Run{second}, repeated(first, impl.RunsMax-1)...), 0, repeated(first, impl.RunsMax-1)},
		{3, append(repeated(first, impl.RunsMax-1), second), impl.RunsMax - 1, repeated(first, impl.RunsMax-1)},
	}
	for _, c := range cases {
		if got, fine := impl.NetWithout(c.n, c.runs, c.k); !slices.Equal(got, c.want) || !fine {
			t.Errorf("NetWithout(%d, %v, %d) is %v, %v, wanted %v", c.n, c.runs, c.k, got, fine, c.want)
		}
	}
}

func TestPromise50(t *testing.T) {
	atZero, others := 0, 0
	eachNetRun(func(v net, k int) {
		sums, r := sourceOf(t, v), v.runs[k]
		back, fine := impl.NetBack(v.n, v.runs, k)
		if turned, good := impl.NetSource(v.n, back); !slices.Equal(turned, sums) || !fine || !good {
			t.Errorf("NetSource(%d, %v) is %v, but %v with the run %d turned", v.n, v.runs, sums, turned, k)
		}
		changes := make([]int, v.n)
		changes[r.To], changes[r.From] = r.Weight*r.Rise, -r.Weight*r.Rise
		left := sourceOf(t, withoutOf(t, v, k))
		for node := 1; node < v.n; node++ {
			if sums[node-1]-left[node-1] != changes[node] {
				t.Errorf("NetSource(%d, %v) is %v, but %v without the run %d", v.n, v.runs, sums, left, k)
			}
		}
		if r.From == 0 || r.To == 0 {
			atZero++
		} else {
			others++
		}
	})
	if atZero < 5000 || others < 5000 {
		t.Errorf("only %d runs at the node 0 and %d others were checked", atZero, others)
	}
}

// checkNoRun wants the functions that take an index to fail.
func checkNoRun(t *testing.T, v net, k int) {
	t.Helper()
	name := v.runs[max(0, len(v.runs)-2):]
	if runs, fine := impl.NetWithout(v.n, v.runs, k); len(runs) != 0 || fine {
		t.Errorf("NetWithout of the run %d is %v, %v for %d nodes and %d runs, %v at the end", k, runs, fine, v.n, len(v.runs), name)
	}
	if n, runs, fine := impl.NetMerge(v.n, v.runs, k); n != 0 || len(runs) != 0 || fine {
		t.Errorf("NetMerge of the run %d is %d, %v, %v for %d nodes and %d runs, %v at the end", k, n, runs, fine, v.n, len(v.runs), name)
	}
}

func TestNoRunIndexes(t *testing.T) {
	for _, v := range append(limitNets(), append(treeNets(), mixedNets()...)...) {
		size := len(v.runs)
		for _, k := range append([]int{-1, -2, -size, -size - 1, size, size + 1, 2 * size, impl.RunsMax, impl.RunsMax + 1, 1000}, badNumbers...) {
			if !between(0, k, size-1) {
				checkNoRun(t, v, k)
			}
		}
	}
}

func TestMatricesOfInvalidNets(t *testing.T) {
	for _, v := range slices.Concat(loopedInvalidNets(), linkedInvalidNets(), invalidNets()) {
		name := v.runs[max(0, len(v.runs)-2):]
		if m, fine := impl.NetMatrix(v.n, v.runs); len(m) != 0 || fine {
			t.Errorf("NetMatrix is %v, %v for %d nodes and %d runs, %v at the end", m, fine, v.n, len(v.runs), name)
		}
		if trees := impl.NetTrees(v.n, v.runs); trees != -1 {
			t.Errorf("NetTrees is %d for %d nodes and %d runs, %v at the end", trees, v.n, len(v.runs), name)
		}
		if sums, fine := impl.NetSource(v.n, v.runs); len(sums) != 0 || fine {
			t.Errorf("NetSource is %v, %v for %d nodes and %d runs, %v at the end", sums, fine, v.n, len(v.runs), name)
		}
		for _, k := range append(firstIndexes(min(len(v.runs), 15)), -1, len(v.runs)-1, len(v.runs), math.MinInt, math.MaxInt) {
			checkNoRun(t, v, k)
		}
	}
}

// TestMatrixNetArgumentsStay gives lists with room behind their ends, which must stay as well.
func TestMatrixNetArgumentsStay(t *testing.T) {
	spoiled := run(9, 9, 9, 9)
	for _, v := range slices.Concat(limitNets(), treeNets(), mixedNets()) {
		room := append(slices.Clone(v.runs), run(1, 0, 77, 3), run(8, 9, 77, 3))
		roomAhead := slices.Clone(room)
		runs := room[:len(v.runs)]
		m, _ := impl.NetMatrix(v.n, runs)
		spoilRows(m)
		impl.NetTrees(v.n, runs)
		sums, _ := impl.NetSource(v.n, runs)
		spoil(sums, -9)
		for k := range runs {
			fewer, _ := impl.NetWithout(v.n, runs, k)
			spoil(fewer, spoiled)
			_, merged, _ := impl.NetMerge(v.n, runs, k)
			spoil(merged, spoiled)
		}
		if !slices.Equal(room, roomAhead) {
			t.Fatalf("an argument is changed: %v, wanted %v", room, roomAhead)
		}
	}
}

func TestMatrixNetResultsAreNew(t *testing.T) {
	spoiled := run(9, 9, 9, 9)
	for _, v := range slices.Concat(limitNets(), treeNets(), mixedNets()) {
		checkNewRows(t, "NetMatrix", func() [][]int { m, _ := impl.NetMatrix(v.n, v.runs); return m })
		checkNew(t, "NetSource", func() []int { sums, _ := impl.NetSource(v.n, v.runs); return sums })
		for k := range v.runs {
			checkNewList(t, "NetWithout", spoiled, func() []impl.Run { runs, _ := impl.NetWithout(v.n, v.runs, k); return runs })
			checkNewList(t, "NetMerge", spoiled, func() []impl.Run { _, runs, _ := impl.NetMerge(v.n, v.runs, k); return runs })
		}
	}
}
