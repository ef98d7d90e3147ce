package tests

import (
	"math"
	"math/rand/v2"
	"slices"
	"testing"

	"loop.example/levellingnet/impl"
)

const heightMax = 1000000

// net is a valid net. Some fit heights, some have rises that fit none.
type net struct {
	n    int
	runs []impl.Run
}

// badNumbers are no nodes, weights, rises, heights, indexes of runs or numbers of nodes. The low 32 bits of some look like such.
var badNumbers = []int{
	-1 << 31, 1 << 31, -1 << 32, 1 << 32, 1<<32 + 1, 1<<32 + 3, 1 << 62, -1 << 62, -1<<62 + 1,
	math.MaxInt, math.MaxInt - 1, math.MinInt, math.MinInt + 1, math.MinInt + 2,
}

func run(from int, to int, rise int, weight int) impl.Run {
	return impl.Run{From: from, To: to, Rise: rise, Weight: weight}
}

// repeated returns as many equal runs.
func repeated(r impl.Run, times int) []impl.Run {
	return slices.Repeat([]impl.Run{r}, times)
}

// chain returns runs from each node to the next one, with the same rise.
func chain(n int, rise int) []impl.Run {
	var runs []impl.Run
	for node := range n - 1 {
		runs = append(runs, run(node, node+1, rise, 1+node))
	}
	return runs
}

// endsOf returns all pairs of different nodes, in both orders.
func endsOf(n int) [][2]int {
	var list [][2]int
	for from := range n {
		for to := range n {
			if from != to {
				list = append(list, [2]int{from, to})
			}
		}
	}
	return list
}

// smallNets are all nets of up to 4 nodes and 3 runs, and of 2 nodes and 5 runs, but for the rises and weights.
func smallNets() []net {
	return slices.Concat(grownNets(2, nil, 5), grownNets(3, nil, 3), grownNets(4, nil, 3))
}

func grownNets(n int, runs []impl.Run, more int) []net {
	list := []net{{n, runs}}
	if more == 0 {
		return list
	}
	for _, ends := range endsOf(n) {
		r := run(ends[0], ends[1], 3*ends[1]-5*ends[0]+len(runs), 1+len(runs))
		list = append(list, grownNets(n, append(slices.Clone(runs), r), more-1)...)
	}
	return list
}

// mixedNets are nets of all numbers of nodes and runs, always the same ones.
func mixedNets() []net {
	var list []net
	source := rand.New(rand.NewPCG(11, 20))
	for n := 2; n <= impl.NodesMax; n++ {
		for size := 0; size <= impl.RunsMax; size++ {
			for range 12 {
				list = append(list, net{n, mixedRuns(source, n, size)})
			}
		}
	}
	return list
}

func mixedRuns(source *rand.Rand, n int, size int) []impl.Run {
	ends := endsOf(n)
	var runs []impl.Run
	for range size {
		pair := ends[source.IntN(len(ends))]
		rise := source.IntN(2*impl.RiseMax+1) - impl.RiseMax
		runs = append(runs, run(pair[0], pair[1], rise, 1+source.IntN(impl.WeightMax)))
	}
	return runs
}

// edgeNets are nets at the limits.
func edgeNets() []net {
	most := impl.NodesMax
	return []net{
		{2, nil}, {2, []impl.Run{}}, {most, nil},
		{2, repeated(run(0, 1, impl.RiseMax, impl.WeightMax), impl.RunsMax)},
		{2, repeated(run(1, 0, -impl.RiseMax, 1), impl.RunsMax)},
		{most, repeated(run(most-1, 0, -impl.RiseMax, 1), impl.RunsMax)},
		{most, chain(most, impl.RiseMax)}, {most, chain(most, -impl.RiseMax)},
		{most, append(chain(most, 1), chain(most, 1)...)},
		{most, []impl.Run{run(4, 5, 0, 1), run(3, 4, 0, 1), run(2, 3, 0, 1), run(1, 2, 0, 1), run(0, 1, 0, 1)}},
		{most, []impl.Run{run(5, 0, 1, 1), run(1, 4, 1, 1), run(4, 2, 1, 1)}},
		{most, []impl.Run{run(5, 3, 1, 1), run(3, 1, 1, 1), run(0, 2, 1, 1), run(2, 4, 1, 1)}},
	}
}

func allNets() []net {
	return slices.Concat(edgeNets(), smallNets(), mixedNets())
}

// fittingRuns returns the same runs with the rises of heights.
func fittingRuns(runs []impl.Run, heights []int) []impl.Run {
	var list []impl.Run
	for _, r := range runs {
		list = append(list, run(r.From, r.To, heights[r.To]-heights[r.From], r.Weight))
	}
	return list
}

// heightsFor returns lists of heights whose differences are rises, some of them at the limits.
func heightsFor(n int) [][]int {
	some := []int{10, 15, 13, -4, 0, 99}
	far := []int{0, impl.RiseMax, 1, impl.RiseMax, 0, impl.RiseMax - 1}
	lists := [][]int{make([]int, n), some[:n], far[:n]}
	return append(lists, raised(far[:n], heightMax-impl.RiseMax), raised(far[:n], -heightMax), raised(make([]int, n), heightMax))
}

func raised(heights []int, by int) []int {
	list := slices.Clone(heights)
	for node := range list {
		list[node] += by
	}
	return list
}

func raisedAt(heights []int, node int, by int) []int {
	list := slices.Clone(heights)
	list[node] += by
	return list
}

func heightsInRange(heights []int) bool {
	return slices.Max(heights) <= heightMax && slices.Min(heights) >= -heightMax
}

// wantedLinked hands the lesser one of both numbers on along each run until nothing changes.
func wantedLinked(n int, runs []impl.Run) []int {
	least := make([]int, n)
	for node := range least {
		least[node] = node
	}
	for range n {
		for _, r := range runs {
			both := min(least[r.From], least[r.To])
			least[r.From], least[r.To] = both, both
		}
	}
	return least
}

func wantedWhole(n int, runs []impl.Run) bool {
	return slices.Equal(wantedLinked(n, runs), make([]int, n))
}

// wantedLoops counts the runs whose nodes are linked by the runs ahead of them.
func wantedLoops(n int, runs []impl.Run) int {
	loops := 0
	for k, r := range runs {
		if least := wantedLinked(n, runs[:k]); least[r.From] == least[r.To] {
			loops++
		}
	}
	return loops
}

func wantedFits(runs []impl.Run, heights []int) bool {
	for _, r := range runs {
		if heights[r.From]+r.Rise != heights[r.To] {
			return false
		}
	}
	return heightsInRange(heights)
}

// invalidRuns are none of a net of as many nodes.
func invalidRuns(n int) []impl.Run {
	most, heavy := impl.RiseMax, impl.WeightMax
	list := []impl.Run{
		{}, run(0, 0, 0, 1), run(1, 1, 5, 1), run(n-1, n-1, 0, 1), run(n, n, 0, 1), run(-1, -1, 0, 1),
		run(0, n, 0, 1), run(n, 0, 0, 1), run(-1, 0, 0, 1), run(0, -1, 0, 1), run(n, n+1, 0, 1), run(-1, n, 0, 1),
		run(0, 1, most+1, 1), run(0, 1, -most-1, 1), run(1, 0, 2*most, heavy), run(0, 1, heightMax, 1),
		run(0, 1, 0, 0), run(0, 1, 0, -1), run(0, 1, 0, -heavy), run(0, 1, 0, heavy+1), run(1, 0, most, heavy+1),
	}
	for _, bad := range badNumbers {
		list = append(list, run(bad, 0, 0, 1), run(0, bad, 0, 1), run(bad, bad, 0, 1), run(bad, -bad, 0, 1))
		list = append(list, run(0, 1, bad, 1), run(0, 1, 0, bad), run(bad, bad, bad, bad))
	}
	return list
}

// invalidNets have too few or too many nodes, too many runs, or a run that is none.
func invalidNets() []net {
	good := run(0, 1, 0, 1)
	var list []net
	for _, n := range append([]int{-2, -1, 0, 1, impl.NodesMax + 1, impl.NodesMax + 2, 100}, badNumbers...) {
		list = append(list, net{n, nil}, net{n, []impl.Run{good}}, net{n, chain(2, 1)})
	}
	for n := 2; n <= impl.NodesMax; n++ {
		for _, size := range []int{impl.RunsMax + 1, impl.RunsMax + 2, 1000, 100000} {
			list = append(list, net{n, repeated(good, size)})
		}
		for _, bad := range invalidRuns(n) {
			list = append(list, net{n, []impl.Run{bad}}, net{n, []impl.Run{bad, good}}, net{n, []impl.Run{good, bad}})
			list = append(list, net{n, append(repeated(good, impl.RunsMax-1), bad)})
		}
	}
	return list
}

func TestNetValid(t *testing.T) {
	for _, v := range allNets() {
		if !impl.NetValid(v.n, v.runs) {
			t.Errorf("NetValid(%d, %v) is false", v.n, v.runs)
		}
	}
	for _, v := range invalidNets() {
		if impl.NetValid(v.n, v.runs) {
			t.Errorf("NetValid is true for %d nodes and %d runs, %v at the end", v.n, len(v.runs), v.runs[max(0, len(v.runs)-2):])
		}
	}
}

func TestNetValidCases(t *testing.T) {
	cases := []struct {
		n    int
		r    impl.Run
		want bool
	}{
		{2, run(0, 1, impl.RiseMax, 1), true},
		{2, run(0, 1, impl.RiseMax+1, 1), false},
		{2, run(0, 1, -impl.RiseMax, 1), true},
		{2, run(0, 1, -impl.RiseMax-1, 1), false},
		{2, run(0, 1, 0, impl.WeightMax), true},
		{2, run(0, 1, 0, impl.WeightMax+1), false},
		{2, run(0, 1, 0, 1), true},
		{2, run(0, 1, 0, 0), false},
		{2, run(1, 0, 0, 1), true},
		{2, run(1, 2, 0, 1), false},
		{3, run(1, 2, 0, 1), true},
		{6, run(5, 0, 0, 1), true},
		{6, run(0, 5, 0, 1), true},
		{6, run(0, 6, 0, 1), false},
		{6, run(5, 5, 0, 1), false},
		{7, run(0, 1, 0, 1), false},
		{1, run(0, 1, 0, 1), false},
	}
	for _, c := range cases {
		if got := impl.NetValid(c.n, []impl.Run{c.r}); got != c.want {
			t.Errorf("NetValid(%d, %v) is %v", c.n, c.r, got)
		}
	}
}

func TestNetLinkedCases(t *testing.T) {
	cases := []struct {
		n     int
		runs  []impl.Run
		want  []int
		loops int
	}{
		{2, nil, []int{0, 1}, 0},
		{6, nil, []int{0, 1, 2, 3, 4, 5}, 0},
		{2, []impl.Run{run(1, 0, 3, 1)}, []int{0, 0}, 0},
		{3, []impl.Run{run(2, 1, 3, 1)}, []int{0, 1, 1}, 0},
		{4, []impl.Run{run(2, 1, 2, 1), run(0, 2, 3, 2)}, []int{0, 0, 0, 3}, 0},
		{2, repeated(run(0, 1, 1, 1), 2), []int{0, 0}, 1},
		{2, []impl.Run{run(0, 1, 1, 1), run(1, 0, 1, 1)}, []int{0, 0}, 1},
		{2, repeated(run(0, 1, 1, 1), impl.RunsMax), []int{0, 0}, impl.RunsMax - 1},
		{6, repeated(run(5, 4, 1, 1), impl.RunsMax), []int{0, 1, 2, 3, 4, 4}, impl.RunsMax - 1},
		{3, []impl.Run{run(0, 1, 5, 1), run(2, 1, 2, 1), run(0, 2, 3, 2)}, []int{0, 0, 0}, 1},
		{6, chain(6, 4), []int{0, 0, 0, 0, 0, 0}, 0},
		{6, append(chain(6, 4), run(5, 0, -20, 1)), []int{0, 0, 0, 0, 0, 0}, 1},
		{6, []impl.Run{run(5, 3, 1, 1), run(3, 1, 1, 1), run(4, 2, 1, 1), run(2, 0, 1, 1)}, []int{0, 1, 0, 1, 0, 1}, 0},
		{6, []impl.Run{run(1, 5, 1, 1), run(4, 5, 1, 1), run(4, 1, 1, 1), run(2, 3, 1, 1), run(3, 2, 1, 1)}, []int{0, 1, 2, 2, 1, 1}, 2},
	}
	for _, c := range cases {
		if got := impl.NetLinked(c.n, c.runs); !slices.Equal(got, c.want) {
			t.Errorf("NetLinked(%d, %v) is %v, wanted %v", c.n, c.runs, got, c.want)
		}
		if got, want := impl.NetWhole(c.n, c.runs), slices.Max(c.want) == 0; got != want {
			t.Errorf("NetWhole(%d, %v) is %v", c.n, c.runs, got)
		}
		if got := impl.NetLoops(c.n, c.runs); got != c.loops {
			t.Errorf("NetLoops(%d, %v) is %d, wanted %d", c.n, c.runs, got, c.loops)
		}
	}
}

func TestPromise16(t *testing.T) {
	whole := 0
	for _, v := range allNets() {
		least := impl.NetLinked(v.n, v.runs)
		if !slices.Equal(least, wantedLinked(v.n, v.runs)) {
			t.Fatalf("NetLinked(%d, %v) is %v", v.n, v.runs, least)
		}
		for _, r := range v.runs {
			if least[r.From] != least[r.To] {
				t.Errorf("NetLinked(%d, %v) is %v, but there is a run %v", v.n, v.runs, least, r)
			}
		}
		for node, other := range least {
			if other > node || least[other] != other {
				t.Errorf("NetLinked(%d, %v) is %v: wrong at the node %d", v.n, v.runs, least, node)
			}
		}
		fine := impl.NetWhole(v.n, v.runs)
		if fine != slices.Equal(least, make([]int, v.n)) {
			t.Errorf("NetWhole(%d, %v) is %v, but NetLinked %v", v.n, v.runs, fine, least)
		}
		if fine {
			whole++
		}
	}
	if whole < 100 {
		t.Errorf("only %d nets are whole", whole)
	}
}

func TestPromise17(t *testing.T) {
	for _, v := range allNets() {
		loops := impl.NetLoops(v.n, v.runs)
		if loops != wantedLoops(v.n, v.runs) {
			t.Fatalf("NetLoops(%d, %v) is %d", v.n, v.runs, loops)
		}
		if len(v.runs) == 0 {
			continue
		}
		fewer, last := v.runs[:len(v.runs)-1], v.runs[len(v.runs)-1]
		least := impl.NetLinked(v.n, fewer)
		want := loops
		if least[last.From] == least[last.To] {
			want--
		}
		if got := impl.NetLoops(v.n, fewer); got != want {
			t.Errorf("NetLoops(%d, %v) is %d, but %d without the last run", v.n, v.runs, loops, got)
		}
	}
}

func TestNetBackCases(t *testing.T) {
	runs := []impl.Run{run(0, 1, 5, 1), run(2, 1, 2, 3), run(0, 2, -impl.RiseMax, impl.WeightMax)}
	cases := []struct {
		k    int
		want impl.Run
	}{
		{0, run(1, 0, -5, 1)},
		{1, run(1, 2, -2, 3)},
		{2, run(2, 0, impl.RiseMax, impl.WeightMax)},
	}
	for _, c := range cases {
		want := slices.Clone(runs)
		want[c.k] = c.want
		if got, fine := impl.NetBack(3, runs, c.k); !slices.Equal(got, want) || !fine {
			t.Errorf("NetBack of the run %d is %v, %v, wanted %v", c.k, got, fine, want)
		}
	}
	for _, k := range append([]int{-1, 3, 4, impl.RunsMax}, badNumbers...) {
		if got, fine := impl.NetBack(3, runs, k); len(got) != 0 || fine {
			t.Errorf("NetBack of the run %d of 3 is %v, %v", k, got, fine)
		}
		if got, fine := impl.NetBack(3, nil, k); len(got) != 0 || fine {
			t.Errorf("NetBack of the run %d without runs is %v, %v", k, got, fine)
		}
	}
	if got, fine := impl.NetBack(3, nil, 0); len(got) != 0 || fine {
		t.Errorf("NetBack of the first run without runs is %v, %v", got, fine)
	}
}

func TestPromise18(t *testing.T) {
	for _, v := range allNets() {
		for k := range v.runs {
			checkPromise18(t, v, k)
		}
	}
}

func checkPromise18(t *testing.T, v net, k int) {
	t.Helper()
	back, fine := impl.NetBack(v.n, v.runs, k)
	want := slices.Clone(v.runs)
	want[k] = run(v.runs[k].To, v.runs[k].From, -v.runs[k].Rise, v.runs[k].Weight)
	if !slices.Equal(back, want) || !fine {
		t.Fatalf("NetBack(%d, %v, %d) is %v, %v", v.n, v.runs, k, back, fine)
	}
	if same, good := impl.NetBack(v.n, back, k); !slices.Equal(same, v.runs) || !good {
		t.Errorf("NetBack(%d, %v, %d) is %v, %v, wanted %v", v.n, back, k, same, good, v.runs)
	}
	if first, second := impl.NetLinked(v.n, v.runs), impl.NetLinked(v.n, back); !slices.Equal(first, second) {
		t.Errorf("NetLinked(%d, %v) is %v, but %v with the run %d turned", v.n, v.runs, first, second, k)
	}
	if first, second := impl.NetLoops(v.n, v.runs), impl.NetLoops(v.n, back); first != second {
		t.Errorf("NetLoops(%d, %v) is %d, but %d with the run %d turned", v.n, v.runs, first, second, k)
	}
	for _, heights := range heightsFor(v.n) {
		checkBackFits(t, v, k, heights)
		checkBackFits(t, net{v.n, fittingRuns(v.runs, heights)}, k, heights)
	}
}

func checkBackFits(t *testing.T, v net, k int, heights []int) {
	t.Helper()
	back, fine := impl.NetBack(v.n, v.runs, k)
	first, second := impl.NetFits(v.n, v.runs, heights), impl.NetFits(v.n, back, heights)
	if first != wantedFits(v.runs, heights) || second != first || !fine {
		t.Errorf("NetFits(%d, %v, %v) is %v, and %v with the run %d turned", v.n, v.runs, heights, first, second, k)
	}
}

func TestNetFitsCases(t *testing.T) {
	runs := []impl.Run{run(0, 1, 5, 1), run(2, 1, 2, 1), run(0, 2, 3, 2)}
	most := heightMax
	cases := []struct {
		n       int
		runs    []impl.Run
		heights []int
		want    bool
	}{
		{3, runs, []int{10, 15, 13}, true},
		{3, runs, []int{10, 15, 12}, false},
		{3, runs, []int{10, 14, 13}, false},
		{3, runs, []int{11, 15, 13}, false},
		{3, runs, []int{-10, -15, -13}, false},
		{3, runs, []int{10, 15}, false},
		{3, runs, []int{10, 15, 13, 0}, false},
		{3, runs, nil, false},
		{4, runs, []int{10, 15, 13, 7}, true},
		{4, runs, []int{10, 15, 13, -most}, true},
		{4, runs, []int{10, 15, 13, most + 1}, false},
		{4, runs, []int{10, 15, 13}, false},
		{3, runs, []int{most - 5, most, most - 2}, true},
		{3, runs, []int{most - 4, most + 1, most - 1}, false},
		{3, runs, []int{-most, 5 - most, 3 - most}, true},
		{3, runs, []int{-most - 1, 4 - most, 2 - most}, false},
		{2, nil, []int{most, -most}, true},
		{2, nil, []int{most + 1, 0}, false},
		{2, nil, []int{0, -most - 1}, false},
		{2, nil, nil, false},
		{2, nil, []int{0}, false},
		{2, nil, []int{0, 0, 0}, false},
		{6, nil, []int{1, 2, 3, 4, 5, 6}, true},
		{6, nil, []int{1, 2, 3, 4, 5}, false},
		{2, []impl.Run{run(0, 1, impl.RiseMax, 1)}, []int{0, impl.RiseMax}, true},
		{2, []impl.Run{run(1, 0, impl.RiseMax, 1)}, []int{impl.RiseMax, 0}, true},
		{2, []impl.Run{run(0, 1, impl.RiseMax+1, 1)}, []int{0, impl.RiseMax + 1}, false},
		{2, []impl.Run{run(0, 1, 1, 1), run(0, 1, 2, 1)}, []int{0, 1}, false},
		{2, []impl.Run{run(0, 1, 1, 1), run(0, 1, 2, 1)}, []int{0, 2}, false},
		{2, []impl.Run{run(0, 1, 1, 1), run(1, 0, -1, 9)}, []int{0, 1}, true},
		{2, []impl.Run{run(0, 1, -1, 1)}, []int{math.MinInt, math.MaxInt}, false},
		{2, []impl.Run{run(0, 1, 1, 1)}, []int{math.MaxInt, math.MinInt}, false},
		{2, []impl.Run{run(0, 1, 0, 1)}, []int{math.MaxInt, math.MaxInt}, false},
		{2, []impl.Run{run(0, 0, 0, 1)}, []int{0, 0}, false},
		{2, []impl.Run{run(0, 1, 1, 0)}, []int{0, 1}, false},
		{2, []impl.Run{run(0, 1, 1, 10)}, []int{0, 1}, false},
	}
	for _, c := range cases {
		if got := impl.NetFits(c.n, c.runs, c.heights); got != c.want {
			t.Errorf("NetFits(%d, %v, %v) is %v", c.n, c.runs, c.heights, got)
		}
	}
}

func TestPromise19(t *testing.T) {
	for _, v := range allNets() {
		for _, heights := range heightsFor(v.n) {
			runs := fittingRuns(v.runs, heights)
			if !impl.NetFits(v.n, runs, heights) {
				t.Fatalf("NetFits(%d, %v, %v) is false", v.n, runs, heights)
			}
			checkPromise19(t, net{v.n, runs}, heights)
		}
	}
}

func checkPromise19(t *testing.T, v net, heights []int) {
	t.Helper()
	for _, by := range []int{7, -7} {
		higher := raised(heights, by)
		if got := impl.NetFits(v.n, v.runs, higher); got != heightsInRange(higher) {
			t.Errorf("NetFits(%d, %v, %v) is %v", v.n, v.runs, higher, got)
		}
	}
	for k := range v.runs {
		fewer := slices.Delete(slices.Clone(v.runs), k, k+1)
		if !impl.NetFits(v.n, v.runs[:k], heights) || !impl.NetFits(v.n, fewer, heights) {
			t.Errorf("NetFits(%d, %v, %v) holds, but not for fewer runs", v.n, v.runs, heights)
		}
	}
	for node := range v.n {
		hasRuns := slices.ContainsFunc(v.runs, func(r impl.Run) bool { return r.From == node || r.To == node })
		for _, by := range []int{1, -1} {
			other := raisedAt(heights, node, by)
			if got := impl.NetFits(v.n, v.runs, other); got != (!hasRuns && heightsInRange(other)) {
				t.Errorf("NetFits(%d, %v, %v) is %v", v.n, v.runs, other, got)
			}
		}
	}
}

func TestPromise20(t *testing.T) {
	checks := 0
	for _, v := range allNets() {
		if !impl.NetWhole(v.n, v.runs) {
			continue
		}
		for _, heights := range heightsFor(v.n) {
			checks++
			checkPromise20(t, net{v.n, fittingRuns(v.runs, heights)}, heights)
		}
	}
	if checks < 1000 {
		t.Errorf("only %d whole nets were checked", checks)
	}
}

func checkPromise20(t *testing.T, v net, heights []int) {
	t.Helper()
	for _, by := range []int{0, 1, -1, 12345, heightMax, -heightMax, 2 * heightMax, math.MaxInt, math.MinInt} {
		if higher := raised(heights, by); impl.NetFits(v.n, v.runs, higher) != heightsInRange(higher) {
			t.Errorf("NetFits(%d, %v, %v) is %v", v.n, v.runs, higher, !heightsInRange(higher))
		}
	}
	for _, others := range heightsFor(v.n) {
		by := others[0] - heights[0]
		if got, want := impl.NetFits(v.n, v.runs, others), slices.Equal(others, raised(heights, by)); got != want {
			t.Errorf("NetFits(%d, %v, %v) is %v, but %v fit", v.n, v.runs, others, got, heights)
		}
	}
	// Those of two parts of the nodes differ by different numbers.
	for node := 1; node < v.n; node++ {
		others := slices.Concat(heights[:node], raised(heights[node:], 1))
		if impl.NetFits(v.n, v.runs, others) {
			t.Errorf("NetFits(%d, %v, %v) holds, but %v fit", v.n, v.runs, others, heights)
		}
	}
}

// TestUnlinkedFits checks that the parts of a net that is not whole have heights of their own.
func TestUnlinkedFits(t *testing.T) {
	for _, v := range allNets() {
		least := wantedLinked(v.n, v.runs)
		for _, heights := range heightsFor(v.n) {
			others := slices.Clone(heights)
			for node := range others {
				others[node] += least[node]
			}
			want := heightsInRange(others)
			if got := impl.NetFits(v.n, fittingRuns(v.runs, heights), others); got != want {
				t.Errorf("NetFits(%d, %v, %v) is %v", v.n, fittingRuns(v.runs, heights), others, got)
			}
		}
	}
}

func TestInvalidNets(t *testing.T) {
	for _, v := range invalidNets() {
		name := v.runs[max(0, len(v.runs)-2):]
		if got := impl.NetLinked(v.n, v.runs); len(got) != 0 {
			t.Errorf("NetLinked is %v for %d nodes and %d runs, %v at the end", got, v.n, len(v.runs), name)
		}
		if impl.NetWhole(v.n, v.runs) {
			t.Errorf("NetWhole holds for %d nodes and %d runs, %v at the end", v.n, len(v.runs), name)
		}
		if got := impl.NetLoops(v.n, v.runs); got != -1 {
			t.Errorf("NetLoops is %d for %d nodes and %d runs, %v at the end", got, v.n, len(v.runs), name)
		}
		for _, k := range []int{0, 1, len(v.runs) - 1, len(v.runs), -1, math.MinInt, math.MaxInt} {
			if got, fine := impl.NetBack(v.n, v.runs, k); len(got) != 0 || fine {
				t.Errorf("NetBack of the run %d is %v, %v for %d nodes and %d runs, %v at the end", k, got, fine, v.n, len(v.runs), name)
			}
		}
		for _, size := range []int{0, 1, 2, 6, min(max(v.n, 0), 100)} {
			if impl.NetFits(v.n, v.runs, make([]int, size)) {
				t.Errorf("NetFits holds for %d heights, %d nodes and %d runs, %v at the end", size, v.n, len(v.runs), name)
			}
		}
	}
}

func TestInvalidHeights(t *testing.T) {
	for n := 2; n <= impl.NodesMax; n++ {
		for _, size := range []int{0, 1, 2, 3, 4, 5, 6, 7, 8, 100000} {
			if got := impl.NetFits(n, nil, make([]int, size)); got != (size == n) {
				t.Errorf("NetFits is %v for %d nodes and %d heights", got, n, size)
			}
		}
		for node := range n {
			for _, bad := range append([]int{heightMax + 1, -heightMax - 1}, badNumbers...) {
				if heights := raisedAt(make([]int, n), node, bad); impl.NetFits(n, nil, heights) {
					t.Errorf("NetFits holds for the heights %v", heights)
				}
			}
		}
	}
}

func TestNilAndEmptyRuns(t *testing.T) {
	for n := 2; n <= impl.NodesMax; n++ {
		for _, runs := range [][]impl.Run{nil, {}, make([]impl.Run, 0, 5)} {
			if !impl.NetValid(n, runs) || impl.NetWhole(n, runs) || impl.NetLoops(n, runs) != 0 || !impl.NetFits(n, runs, make([]int, n)) {
				t.Errorf("a net of %d nodes without runs is not as wanted", n)
			}
			if got := impl.NetLinked(n, runs); !slices.Equal(got, []int{0, 1, 2, 3, 4, 5}[:n]) {
				t.Errorf("NetLinked is %v without runs", got)
			}
		}
	}
}

// TestNetArgumentsStay gives lists with room behind their ends, which must stay as well.
func TestNetArgumentsStay(t *testing.T) {
	for _, v := range mixedNets() {
		room := append(slices.Clone(v.runs), run(1, 0, 77, 3), run(8, 9, 77, 3))
		heights := append(heightsFor(v.n)[1], 77, 78)
		runsAhead, heightsAhead := slices.Clone(room), slices.Clone(heights)
		runs := room[:len(v.runs)]
		impl.NetValid(v.n, runs)
		impl.NetWhole(v.n, runs)
		impl.NetLoops(v.n, runs)
		impl.NetFits(v.n, runs, heights[:v.n])
		spoil(impl.NetLinked(v.n, runs), -9)
		for k := range runs {
			back, _ := impl.NetBack(v.n, runs, k)
			spoil(back, run(9, 9, 9, 9))
		}
		if !slices.Equal(room, runsAhead) || !slices.Equal(heights, heightsAhead) {
			t.Fatalf("an argument is changed: %v, %v", room, heights)
		}
	}
}

// spoil overwrites a result and all the room behind it.
func spoil[T any](list []T, with T) {
	list = list[:cap(list)]
	for i := range list {
		list[i] = with
	}
}

func TestNetResultsAreNew(t *testing.T) {
	for _, v := range mixedNets() {
		spoil(impl.NetLinked(v.n, v.runs), -9)
		if got := impl.NetLinked(v.n, v.runs); !slices.Equal(got, wantedLinked(v.n, v.runs)) {
			t.Fatalf("NetLinked is %v behind a call whose result was changed", got)
		}
		for k := range v.runs {
			first, _ := impl.NetBack(v.n, v.runs, k)
			second, _ := impl.NetBack(v.n, v.runs, k)
			want := slices.Clone(second)
			spoil(first, run(9, 9, 9, 9))
			if !slices.Equal(second, want) {
				t.Fatalf("two results of NetBack share memory: %v", second)
			}
		}
	}
}
