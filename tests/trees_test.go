package tests

import (
	"math"
	"math/bits"
	"slices"
	"testing"

	"loop.example/levellingnet/impl"
)

// indexSets returns all ascending lists of indexes below count with least to most numbers.
func indexSets(count int, least int, most int) [][]int {
	var list [][]int
	for set := range 1 << count {
		if size := bits.OnesCount(uint(set)); size < least || size > most {
			continue
		}
		var indexes []int
		for k := range count {
			if set>>k&1 == 1 {
				indexes = append(indexes, k)
			}
		}
		list = append(list, indexes)
	}
	return list
}

func firstIndexes(size int) []int {
	list := make([]int, size)
	for i := range list {
		list[i] = i
	}
	return list
}

func runsAt(runs []impl.Run, indexes []int) []impl.Run {
	var list []impl.Run
	for _, k := range indexes {
		list = append(list, runs[k])
	}
	return list
}

func without(list []int, i int) []int {
	return slices.Delete(slices.Clone(list), i, i+1)
}

func wantedTree(v net, list []int) bool {
	return len(list) == v.n-1 && wantedWhole(v.n, runsAt(v.runs, list))
}

// wantedTrees returns all trees of a net, tried one by one.
func wantedTrees(v net) [][]int {
	var list [][]int
	for _, indexes := range indexSets(len(v.runs), v.n-1, v.n-1) {
		if wantedTree(v, indexes) {
			list = append(list, indexes)
		}
	}
	return list
}

func wantedWeight(v net) int {
	sum := 0
	for _, tree := range wantedTrees(v) {
		product := 1
		for _, r := range runsAt(v.runs, tree) {
			product *= r.Weight
		}
		sum += product
	}
	return sum
}

// someTrees returns all trees of a net with few of them, and otherwise the first and the last ones and some between.
func someTrees(v net) [][]int {
	trees := wantedTrees(v)
	step := 1 + len(trees)/20
	var list [][]int
	for i := 0; i < len(trees); i += step {
		list = append(list, trees[i])
	}
	if len(trees) > 0 {
		list = append(list, trees[len(trees)-1])
	}
	return list
}

func withWeights(runs []impl.Run, weights func(weight int) int) []impl.Run {
	list := slices.Clone(runs)
	for k := range list {
		list[k].Weight = weights(list[k].Weight)
	}
	return list
}

func constant(weight int) func(int) int {
	return func(int) int { return weight }
}

// complete returns a run between each two nodes, of weight 1.
func complete(n int) []impl.Run {
	var runs []impl.Run
	for from := range n {
		for to := from + 1; to < n; to++ {
			runs = append(runs, run(from, to, 0, 1))
		}
	}
	return runs
}

func ring(n int) []impl.Run {
	return append(withWeights(chain(n, 1), constant(1)), run(n-1, 0, 1, 1))
}

// octahedron returns the 12 runs between all nodes of 6 that are not opposite.
func octahedron() []impl.Run {
	return slices.DeleteFunc(complete(6), func(r impl.Run) bool { return r.From+3 == r.To })
}

// twoSides returns the 9 runs between the even and the odd nodes of 6.
func twoSides() []impl.Run {
	return slices.DeleteFunc(complete(6), func(r impl.Run) bool { return (r.To-r.From)%2 == 0 })
}

// treeNets are further nets at the limits, most of them with many trees.
func treeNets() []net {
	list := []net{
		{4, complete(4)}, {5, complete(5)}, {6, octahedron()}, {6, twoSides()}, {6, ring(6)}, {3, ring(3)},
		{6, withWeights(octahedron(), constant(impl.WeightMax))},
		{6, append(ring(6), withWeights(ring(6), constant(impl.WeightMax))...)},
		{6, append(repeated(run(0, 1, 4, 2), 7), chain(6, 3)...)},
		{6, append(chain(6, -3), repeated(run(5, 4, 7, 3), 7)...)},
		{5, append(repeated(run(0, 1, 4, 2), 6), repeated(run(2, 3, 4, 2), 6)...)},
		{2, []impl.Run{run(0, 1, 5, 1), run(1, 0, -4, impl.WeightMax)}},
		{3, []impl.Run{run(0, 1, 1, 1), run(1, 0, 2, 2), run(1, 2, 3, 3), run(2, 1, 4, 4), run(0, 1, 5, 5)}},
	}
	return slices.Concat(list, edgeNets())
}

func allTreeNets() []net {
	return append(treeNets(), allNets()...)
}

func TestTreeIsCases(t *testing.T) {
	runs := []impl.Run{run(0, 1, 5, 1), run(1, 0, -4, 3), run(2, 1, 2, 2), run(0, 2, 3, 2), run(2, 3, 1, 1)}
	cases := []struct {
		n    int
		tree []int
		want bool
	}{
		{4, []int{0, 2, 4}, true}, {4, []int{1, 2, 4}, true}, {4, []int{0, 3, 4}, true}, {4, []int{2, 3, 4}, true}, {4, []int{1, 3, 4}, true},
		{4, []int{0, 1, 4}, false}, {4, []int{0, 2, 3}, false}, {4, []int{1, 2, 3}, false},
		{4, []int{2, 0, 4}, false}, {4, []int{0, 4, 2}, false}, {4, []int{4, 2, 0}, false}, {4, []int{4, 3, 2}, false},
		{4, []int{0, 0, 2}, false}, {4, []int{0, 2, 2}, false}, {4, []int{0, 2, 4, 4}, false}, {4, []int{0, 0, 2, 4}, false}, {4, []int{4, 4, 4}, false},
		{4, nil, false}, {4, []int{}, false}, {4, []int{0}, false}, {4, []int{0, 2}, false}, {4, []int{2, 4}, false},
		{4, []int{0, 2, 3, 4}, false}, {4, []int{0, 1, 2, 3, 4}, false}, {4, []int{0, 2, 4, 5}, false},
		{4, []int{-1, 2, 4}, false}, {4, []int{-1, 0, 2}, false}, {4, []int{0, 2, 5}, false}, {4, []int{2, 4, 5}, false}, {4, []int{5, 6, 7}, false}, {4, []int{-3, -2, -1}, false},
		{4, []int{-1, 0, 2, 4}, false}, {5, []int{0, 2, 3, 4}, false}, {5, []int{0, 1, 2, 4}, false},
		{3, []int{0, 2}, false}, {2, []int{0}, false},
	}
	for _, c := range cases {
		if got := impl.TreeIs(c.n, runs, c.tree); got != c.want {
			t.Errorf("TreeIs(%d, .., %v) is %v", c.n, c.tree, got)
		}
	}
	for n := 2; n <= impl.NodesMax; n++ {
		for _, tree := range [][]int{nil, {}, {0}, {-1}, {0, 1}, firstIndexes(n - 1)} {
			if impl.TreeIs(n, nil, tree) {
				t.Errorf("TreeIs holds for %d nodes without runs and %v", n, tree)
			}
		}
	}
}

// TestTreeIsOfSets tries all sets of runs, of each size in small nets and of the sizes next to that of a tree in others.
func TestTreeIsOfSets(t *testing.T) {
	for _, v := range allTreeNets() {
		least, most := 0, len(v.runs)
		if most > 6 {
			least, most = v.n-2, v.n
		}
		for _, list := range indexSets(len(v.runs), least, most) {
			if got := impl.TreeIs(v.n, v.runs, list); got != wantedTree(v, list) {
				t.Fatalf("TreeIs(%d, %v, %v) is %v", v.n, v.runs, list, got)
			}
		}
	}
}

// badLists are none of the trees of a net with a tree.
func badLists(v net, tree []int) [][]int {
	list := [][]int{nil, {}, append(slices.Clone(tree), len(v.runs)), append([]int{-1}, tree...), slices.Repeat(tree, 2), make([]int, 100000)}
	for i := range tree {
		list = append(list, without(tree, i), slices.Insert(slices.Clone(tree), i, tree[i]))
		for _, bad := range append([]int{-1, -2, len(v.runs), len(v.runs) + 1, impl.RunsMax, ^tree[i], tree[i] + 1<<32}, badNumbers...) {
			other := slices.Clone(tree)
			other[i] = bad
			list = append(list, other)
		}
		for j := range i {
			exchanged, doubled := slices.Clone(tree), slices.Clone(tree)
			exchanged[i], exchanged[j] = tree[j], tree[i]
			doubled[i] = tree[j]
			list = append(list, exchanged, doubled)
		}
	}
	return list
}

func TestBadLists(t *testing.T) {
	checks := 0
	for _, v := range allTreeNets() {
		for _, tree := range someTrees(v)[:min(2, len(someTrees(v)))] {
			for _, list := range badLists(v, tree) {
				checks++
				checkNoTree(t, v, list)
			}
		}
	}
	if checks < 10000 {
		t.Errorf("only %d lists were checked", checks)
	}
}

func checkNoTree(t *testing.T, v net, list []int) {
	t.Helper()
	name, runs := list[:min(len(list), 20)], v.runs[max(0, len(v.runs)-12):]
	if impl.TreeIs(v.n, v.runs, list) {
		t.Errorf("TreeIs holds for %d nodes, %d runs, %v at the end, and %v", v.n, len(v.runs), runs, name)
	}
	if heights, fine := impl.TreeHeights(v.n, v.runs, list); len(heights) != 0 || fine {
		t.Errorf("TreeHeights is %v, %v for %d nodes, %d runs, %v at the end, and %v", heights, fine, v.n, len(v.runs), runs, name)
	}
}

func TestPromise21(t *testing.T) {
	checks := 0
	for _, v := range allTreeNets() {
		for _, tree := range someTrees(v) {
			checks++
			checkPromise21(t, v, tree)
		}
	}
	if checks < 5000 {
		t.Errorf("only %d trees were checked", checks)
	}
}

func checkPromise21(t *testing.T, v net, tree []int) {
	t.Helper()
	if !impl.TreeIs(v.n, v.runs, tree) {
		t.Fatalf("TreeIs(%d, %v, %v) is false", v.n, v.runs, tree)
	}
	taken := runsAt(v.runs, tree)
	if loops := impl.NetLoops(v.n, taken); loops != 0 {
		t.Errorf("NetLoops(%d, %v) is %d for a tree", v.n, taken, loops)
	}
	if !impl.NetWhole(v.n, taken) || !impl.NetWhole(v.n, v.runs) {
		t.Errorf("NetWhole(%d, %v) fails, but there is the tree %v", v.n, v.runs, tree)
	}
	for i := range tree {
		if fewer := runsAt(v.runs, without(tree, i)); impl.NetWhole(v.n, fewer) {
			t.Errorf("NetWhole(%d, %v) holds, but this is less than the tree %v", v.n, fewer, tree)
		}
	}
}

func TestTreeFirstCases(t *testing.T) {
	cases := []struct {
		n    int
		runs []impl.Run
		want []int
	}{
		{2, []impl.Run{run(1, 0, 3, 1)}, []int{0}},
		{2, repeated(run(0, 1, 3, 1), impl.RunsMax), []int{0}},
		{3, []impl.Run{run(0, 1, 5, 1), run(1, 0, -4, 3), run(2, 1, 2, 2), run(0, 2, 3, 2)}, []int{0, 2}},
		{3, append(repeated(run(1, 2, 3, 1), impl.RunsMax-1), run(2, 0, 1, 1)), []int{0, 11}},
		{4, complete(4), []int{0, 1, 2}},
		{4, []impl.Run{run(2, 3, 0, 1), run(0, 1, 0, 1), run(1, 0, 0, 9), run(3, 2, 0, 9), run(3, 1, 0, 1), run(0, 2, 0, 9)}, []int{0, 1, 4}},
		{6, chain(6, 2), []int{0, 1, 2, 3, 4}},
		{6, ring(6), []int{0, 1, 2, 3, 4}},
		{6, append(repeated(run(0, 1, 4, 2), 7), chain(6, 3)...), []int{0, 8, 9, 10, 11}},
		{6, append(chain(6, -3), repeated(run(5, 4, 7, 3), 7)...), []int{0, 1, 2, 3, 4}},
	}
	for _, c := range cases {
		if got, fine := impl.TreeFirst(c.n, c.runs); !slices.Equal(got, c.want) || !fine {
			t.Errorf("TreeFirst(%d, %v) is %v, %v, wanted %v", c.n, c.runs, got, fine, c.want)
		}
	}
}

func TestPromise22(t *testing.T) {
	successes, failures := 0, 0
	for _, v := range allTreeNets() {
		tree, fine := impl.TreeFirst(v.n, v.runs)
		if fine != wantedWhole(v.n, v.runs) {
			t.Fatalf("TreeFirst(%d, %v) is %v, %v", v.n, v.runs, tree, fine)
		}
		if !fine {
			failures++
			if len(tree) != 0 {
				t.Errorf("TreeFirst(%d, %v) is %v, but the net is not whole", v.n, v.runs, tree)
			}
			continue
		}
		successes++
		checkPromise22(t, v, tree)
	}
	if successes < 1000 || failures < 500 {
		t.Errorf("TreeFirst succeeded %d times and failed %d times", successes, failures)
	}
}

func checkPromise22(t *testing.T, v net, tree []int) {
	t.Helper()
	if want := slices.MinFunc(wantedTrees(v), slices.Compare[[]int]); !slices.Equal(tree, want) {
		t.Fatalf("TreeFirst(%d, %v) is %v, wanted %v", v.n, v.runs, tree, want)
	}
	if !impl.TreeIs(v.n, v.runs, tree) {
		t.Errorf("TreeFirst(%d, %v) is %v, which is no tree", v.n, v.runs, tree)
	}
	ahead := -1
	for i, k := range tree {
		for earlier := ahead + 1; earlier < k; earlier++ {
			other := slices.Clone(tree)
			other[i] = earlier
			if impl.TreeIs(v.n, v.runs, other) {
				t.Errorf("TreeFirst(%d, %v) is %v, but %v is a tree", v.n, v.runs, tree, other)
			}
		}
		ahead = k
	}
}

func TestTreeManyCases(t *testing.T) {
	heavy := withWeights(octahedron(), constant(impl.WeightMax))
	cases := []struct {
		name         string
		n            int
		runs         []impl.Run
		many, weight int
	}{
		{"no runs", 2, nil, 0, 0},
		{"no runs", 6, []impl.Run{}, 0, 0},
		{"one run", 2, []impl.Run{run(1, 0, 3, 7)}, 1, 7},
		{"one run, not whole", 3, []impl.Run{run(1, 0, 3, 7)}, 0, 0},
		{"two runs between the same nodes", 2, []impl.Run{run(0, 1, 3, 4), run(1, 0, 3, 5)}, 2, 9},
		{"two runs between the same nodes, not whole", 3, []impl.Run{run(0, 1, 3, 4), run(1, 0, 3, 5)}, 0, 0},
		{"two equal runs and one", 3, append(repeated(run(0, 1, 3, 4), 2), run(1, 2, 0, 3)), 2, 24},
		{"twelve equal runs", 2, repeated(run(0, 1, 3, impl.WeightMax), impl.RunsMax), 12, 108},
		{"twelve runs that are not whole", 6, repeated(run(4, 5, 3, impl.WeightMax), impl.RunsMax), 0, 0},
		{"six and six runs", 3, append(repeated(run(0, 1, 3, 2), 6), repeated(run(2, 1, 3, 3), 6)...), 36, 216},
		{"a triangle with a double side", 3, []impl.Run{run(0, 1, 5, 1), run(1, 0, -4, 3), run(2, 1, 2, 2), run(0, 2, 3, 2)}, 5, 20},
		{"a chain", 6, chain(6, 4), 1, 120},
		{"a ring", 6, ring(6), 6, 6},
		{"a double ring", 6, append(ring(6), ring(6)...), 192, 192},
		{"all pairs of 3", 3, complete(3), 3, 3},
		{"all pairs of 4", 4, complete(4), 16, 16},
		{"all pairs of 5", 5, complete(5), 125, 125},
		{"two sides", 6, twoSides(), 81, 81},
		{"an octahedron", 6, octahedron(), 384, 384},
		{"a heavy octahedron", 6, heavy, 384, 384 * 9 * 9 * 9 * 9 * 9},
		{"a prism", 6, slices.Concat(ringAt(0), ringAt(3), []impl.Run{run(0, 3, 0, 1), run(1, 4, 0, 1), run(2, 5, 0, 1)}), 75, 75},
		{"two rings apart", 6, append(ringAt(0), ringAt(3)...), 0, 0},
	}
	for _, c := range cases {
		if got := impl.TreeMany(c.n, c.runs); got != c.many {
			t.Errorf("%s: TreeMany is %d, wanted %d", c.name, got, c.many)
		}
		if got := impl.TreeWeight(c.n, c.runs); got != c.weight {
			t.Errorf("%s: TreeWeight is %d, wanted %d", c.name, got, c.weight)
		}
	}
}

// ringAt returns a ring of three nodes from a node on.
func ringAt(node int) []impl.Run {
	return []impl.Run{run(node, node+1, 0, 1), run(node+1, node+2, 0, 1), run(node+2, node, 0, 1)}
}

func TestPromise23(t *testing.T) {
	for _, v := range allTreeNets() {
		many := impl.TreeMany(v.n, v.runs)
		if many != len(wantedTrees(v)) {
			t.Fatalf("TreeMany(%d, %v) is %d", v.n, v.runs, many)
		}
		whole := impl.NetWhole(v.n, v.runs)
		if (many > 0) != whole {
			t.Errorf("TreeMany(%d, %v) is %d, but NetWhole %v", v.n, v.runs, many, whole)
		}
		if whole && impl.NetLoops(v.n, v.runs) == 0 && many != 1 {
			t.Errorf("TreeMany(%d, %v) is %d without loops", v.n, v.runs, many)
		}
		for k := range v.runs {
			if fewer := impl.TreeMany(v.n, v.runs[:k]); fewer < 0 || fewer > many {
				t.Errorf("TreeMany(%d, %v) is %d, but %d for the first %d runs", v.n, v.runs, many, fewer, k)
			}
		}
	}
}

func TestPromise24(t *testing.T) {
	doubled := 0
	for _, v := range allTreeNets() {
		weight, many := impl.TreeWeight(v.n, v.runs), impl.TreeMany(v.n, v.runs)
		if weight != wantedWeight(v) || weight < many {
			t.Fatalf("TreeWeight(%d, %v) is %d, and TreeMany %d", v.n, v.runs, weight, many)
		}
		if got := impl.TreeWeight(v.n, withWeights(v.runs, constant(1))); got != many {
			t.Errorf("TreeWeight(%d, %v) is %d with all weights 1, but TreeMany %d", v.n, v.runs, got, many)
		}
		if got := impl.TreeMany(v.n, withWeights(v.runs, constant(impl.WeightMax))); got != many {
			t.Errorf("TreeMany(%d, %v) is %d, but %d with the greatest weights", v.n, v.runs, many, got)
		}
		twice := withWeights(v.runs, func(weight int) int { return 2 * weight })
		if !impl.NetValid(v.n, twice) {
			if got := impl.TreeWeight(v.n, twice); got != -1 {
				t.Errorf("TreeWeight(%d, %v) is %d", v.n, twice, got)
			}
			continue
		}
		doubled++
		if got := impl.TreeWeight(v.n, twice); got != weight<<(v.n-1) {
			t.Errorf("TreeWeight(%d, %v) is %d, but %d with all weights doubled", v.n, v.runs, weight, got)
		}
	}
	if doubled < 1000 {
		t.Errorf("only %d nets have weights that can be doubled", doubled)
	}
}

func TestTreeHeightsCases(t *testing.T) {
	most := impl.RiseMax
	runs := []impl.Run{run(0, 1, 5, 1), run(1, 0, -4, 3), run(2, 1, 2, 2), run(0, 2, 3, 2)}
	spread := []impl.Run{run(4, 5, -7, 1), run(3, 4, 100, 2), run(3, 2, 30, 3), run(1, 2, 4, 4), run(1, 0, 20, 5)}
	cases := []struct {
		n    int
		runs []impl.Run
		tree []int
		want []int
	}{
		{2, []impl.Run{run(0, 1, 9, 1)}, []int{0}, []int{0, 9}},
		{2, []impl.Run{run(1, 0, 9, 1)}, []int{0}, []int{0, -9}},
		{2, []impl.Run{run(1, 0, 9, 1), run(1, 0, 8, 1), run(0, 1, 7, 1)}, []int{1}, []int{0, -8}},
		{2, []impl.Run{run(1, 0, 9, 1), run(1, 0, 8, 1), run(0, 1, 7, 1)}, []int{2}, []int{0, 7}},
		{3, runs, []int{0, 2}, []int{0, 5, 3}},
		{3, runs, []int{1, 2}, []int{0, 4, 2}},
		{3, runs, []int{0, 3}, []int{0, 5, 3}},
		{3, runs, []int{1, 3}, []int{0, 4, 3}},
		{3, runs, []int{2, 3}, []int{0, 5, 3}},
		{6, spread, []int{0, 1, 2, 3, 4}, []int{0, -20, -16, -46, 54, 47}},
		{6, chain(6, most), []int{0, 1, 2, 3, 4}, []int{0, most, 2 * most, 3 * most, 4 * most, 5 * most}},
		{6, chain(6, -most), []int{0, 1, 2, 3, 4}, []int{0, -most, -2 * most, -3 * most, -4 * most, -5 * most}},
	}
	for _, c := range cases {
		if got, fine := impl.TreeHeights(c.n, c.runs, c.tree); !slices.Equal(got, c.want) || !fine {
			t.Errorf("TreeHeights(%d, %v, %v) is %v, %v, wanted %v", c.n, c.runs, c.tree, got, fine, c.want)
		}
	}
}

func TestPromise25(t *testing.T) {
	checks := 0
	for _, v := range allTreeNets() {
		for _, tree := range someTrees(v) {
			checks++
			checkPromise25(t, v, tree)
		}
	}
	if checks < 5000 {
		t.Errorf("only %d trees were checked", checks)
	}
}

func checkPromise25(t *testing.T, v net, tree []int) {
	t.Helper()
	heights, fine := impl.TreeHeights(v.n, v.runs, tree)
	if !fine || len(heights) != v.n || heights[0] != 0 {
		t.Fatalf("TreeHeights(%d, %v, %v) is %v, %v", v.n, v.runs, tree, heights, fine)
	}
	if taken := runsAt(v.runs, tree); !impl.NetFits(v.n, taken, heights) || !wantedFits(taken, heights) {
		t.Errorf("TreeHeights(%d, %v, %v) is %v, which does not fit", v.n, v.runs, tree, heights)
	}
	for _, given := range heightsFor(v.n) {
		runs, want := fittingRuns(v.runs, given), raised(given, -given[0])
		got, good := impl.TreeHeights(v.n, runs, tree)
		if !slices.Equal(got, want) || !good || !impl.NetFits(v.n, runs, got) {
			t.Errorf("TreeHeights(%d, %v, %v) is %v, %v, wanted %v", v.n, runs, tree, got, good, want)
		}
	}
}

func TestPromise26(t *testing.T) {
	exchanges := 0
	for _, v := range allTreeNets() {
		for _, tree := range someTrees(v) {
			for k := range v.runs {
				if !slices.Contains(tree, k) {
					exchanges++
					checkExchange(t, v, tree, k)
				}
			}
			checkMovedToFront(t, v, tree)
		}
	}
	if exchanges < 10000 {
		t.Errorf("only %d exchanges were tried", exchanges)
	}
}

// checkExchange checks that a run which is not in a tree can replace just those runs that are not needed beside it.
func checkExchange(t *testing.T, v net, tree []int, k int) {
	t.Helper()
	found := false
	for i := range tree {
		other := append(without(tree, i), k)
		slices.Sort(other)
		got := impl.TreeIs(v.n, v.runs, other)
		if got != wantedTree(v, other) {
			t.Errorf("TreeIs(%d, %v, %v) is %v", v.n, v.runs, other, got)
		}
		found = found || got
	}
	if !found {
		t.Errorf("no run of the tree %v of %d, %v can be left out for the run %d", tree, v.n, v.runs, k)
	}
}

func checkMovedToFront(t *testing.T, v net, tree []int) {
	t.Helper()
	moved := runsAt(v.runs, tree)
	for k, r := range v.runs {
		if !slices.Contains(tree, k) {
			moved = append(moved, r)
		}
	}
	if got, fine := impl.TreeFirst(v.n, moved); !slices.Equal(got, firstIndexes(v.n-1)) || !fine {
		t.Errorf("TreeFirst(%d, %v) is %v, %v, but the first runs are a tree", v.n, moved, got, fine)
	}
}

// linkedInvalidNets are invalid, but runs of them would link all nodes.
func linkedInvalidNets() []net {
	list := []net{{0, nil}, {1, nil}, {1, []impl.Run{run(0, 0, 0, 1)}}, {1, []impl.Run{run(0, 1, 0, 1)}}}
	for _, n := range []int{impl.NodesMax + 1, impl.NodesMax + 2, impl.RunsMax + 1} {
		list = append(list, net{n, chain(n, 1)}, net{n, withWeights(chain(n, 1), constant(1))})
	}
	for n := 2; n <= impl.NodesMax; n++ {
		list = append(list, net{n, append(chain(n, 1), repeated(run(0, 1, 1, 1), impl.RunsMax+2-n)...)})
		list = append(list, net{n, append(chain(n, 1), repeated(run(0, 1, 1, 1), 1000)...)})
		for _, bad := range invalidRuns(n) {
			list = append(list, net{n, append(chain(n, 1), bad)}, net{n, append([]impl.Run{bad}, chain(n, 1)...)})
		}
		for k := range n - 1 {
			for _, bad := range []impl.Run{run(k, k+1, 0, 0), run(k, k+1, 0, impl.WeightMax+1), run(k+1, k, impl.RiseMax+1, 1)} {
				runs := chain(n, 1)
				runs[k] = bad
				list = append(list, net{n, runs})
			}
		}
	}
	return list
}

func TestTreesOfInvalidNets(t *testing.T) {
	for _, v := range append(linkedInvalidNets(), invalidNets()...) {
		name := v.runs[max(0, len(v.runs)-2):]
		if tree, fine := impl.TreeFirst(v.n, v.runs); len(tree) != 0 || fine {
			t.Errorf("TreeFirst is %v, %v for %d nodes and %d runs, %v at the end", tree, fine, v.n, len(v.runs), name)
		}
		if got := impl.TreeMany(v.n, v.runs); got != -1 {
			t.Errorf("TreeMany is %d for %d nodes and %d runs, %v at the end", got, v.n, len(v.runs), name)
		}
		if got := impl.TreeWeight(v.n, v.runs); got != -1 {
			t.Errorf("TreeWeight is %d for %d nodes and %d runs, %v at the end", got, v.n, len(v.runs), name)
		}
		size := min(max(v.n-1, 0), impl.RunsMax)
		indexes := firstIndexes(size + 1)
		for _, list := range [][]int{nil, {}, {0}, {1}, {math.MinInt}, {math.MaxInt}, indexes, indexes[:size], indexes[1:]} {
			checkNoTree(t, v, list)
		}
	}
}

// TestTreesOfPartedNets checks the functions for nets that are valid but not whole.
func TestTreesOfPartedNets(t *testing.T) {
	parted := 0
	for _, v := range allTreeNets() {
		if wantedWhole(v.n, v.runs) {
			continue
		}
		parted++
		if tree, fine := impl.TreeFirst(v.n, v.runs); len(tree) != 0 || fine {
			t.Errorf("TreeFirst(%d, %v) is %v, %v", v.n, v.runs, tree, fine)
		}
		if many, weight := impl.TreeMany(v.n, v.runs), impl.TreeWeight(v.n, v.runs); many != 0 || weight != 0 {
			t.Errorf("TreeMany(%d, %v) is %d, and TreeWeight %d", v.n, v.runs, many, weight)
		}
		sets := indexSets(len(v.runs), v.n-1, v.n-1)
		for _, list := range append(sets[:min(len(sets), 20)], nil, []int{0}, firstIndexes(v.n-1)) {
			checkNoTree(t, v, list)
		}
	}
	if parted < 500 {
		t.Errorf("only %d nets are not whole", parted)
	}
}

// TestTreeArgumentsStay gives lists with room behind their ends, which must stay as well.
func TestTreeArgumentsStay(t *testing.T) {
	for _, v := range append(treeNets(), mixedNets()...) {
		for _, tree := range append(someTrees(v), nil, make([]int, v.n-1)) {
			room, listRoom := append(slices.Clone(v.runs), run(1, 0, 77, 3)), append(slices.Clone(tree), 77, 78)
			roomAhead, listAhead := slices.Clone(room), slices.Clone(listRoom)
			runs, list := room[:len(v.runs)], listRoom[:len(tree)]
			impl.TreeIs(v.n, runs, list)
			impl.TreeMany(v.n, runs)
			impl.TreeWeight(v.n, runs)
			first, _ := impl.TreeFirst(v.n, runs)
			spoil(first, -9)
			heights, _ := impl.TreeHeights(v.n, runs, list)
			spoil(heights, -9)
			if !slices.Equal(room, roomAhead) || !slices.Equal(listRoom, listAhead) {
				t.Fatalf("an argument is changed: %v, %v", room, listRoom)
			}
		}
	}
}

func TestTreeResultsAreNew(t *testing.T) {
	for _, v := range append(treeNets(), mixedNets()...) {
		tree, fine := impl.TreeFirst(v.n, v.runs)
		if !fine {
			continue
		}
		same, _ := impl.TreeFirst(v.n, v.runs)
		heights, _ := impl.TreeHeights(v.n, v.runs, tree)
		others, _ := impl.TreeHeights(v.n, v.runs, tree)
		wantSame, wantOthers := slices.Clone(same), slices.Clone(others)
		spoil(tree, -9)
		spoil(heights, -9)
		if !slices.Equal(same, wantSame) || !slices.Equal(others, wantOthers) {
			t.Fatalf("two results share memory: %v, %v", same, others)
		}
		again, _ := impl.TreeFirst(v.n, v.runs)
		if heights, _ := impl.TreeHeights(v.n, v.runs, again); !slices.Equal(again, wantSame) || !slices.Equal(heights, wantOthers) {
			t.Fatalf("TreeFirst and TreeHeights are %v, %v behind a call whose results were changed", again, heights)
		}
	}
}
