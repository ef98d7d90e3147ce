package tests

import (
	"math"
	"math/big"
	"math/rand/v2"
	"slices"
	"sync"
	"testing"

	"loop.example/levellingnet/impl"
)

// spreadNet is a whole net with the inverse of its equations: the variances of its adjusted heights, and what they have in common.
type spreadNet struct {
	solved
	inverse [][]*big.Rat
}

func inverseOf(v net) [][]*big.Rat {
	rows := slopes(v)
	for node, row := range rows {
		unit := zeroRats(v.n)
		if node != 0 {
			unit[node].SetInt64(1)
		}
		rows[node] = append(row[:v.n], unit...)
	}
	eliminate(rows)
	for node, row := range rows {
		for _, number := range row[v.n:] {
			number.Quo(number, row[node])
		}
		rows[node] = row[v.n:]
	}
	return rows
}

func spreadNetOf(s solved) spreadNet {
	return spreadNet{s, inverseOf(s.net)}
}

// spread is the variance of the difference of two heights. It is a quotient, as both its parts count trees.
func (s spreadNet) spread(i int, j int) *big.Rat {
	both := new(big.Rat).Add(s.inverse[i][j], s.inverse[j][i])
	sum := new(big.Rat).Add(s.inverse[i][i], s.inverse[j][j])
	return sum.Sub(sum, both)
}

func (s spreadNet) held(k int) *big.Rat {
	spread := s.spread(s.runs[k].From, s.runs[k].To)
	return spread.Mul(spread, wholeRat(s.runs[k].Weight))
}

func (s spreadNet) free(k int) *big.Rat {
	return new(big.Rat).Sub(wholeRat(1), s.held(k))
}

// perFree is the rest of a run in a loop divided by what is free, with its sign.
func (s spreadNet) perFree(k int) *big.Rat {
	return new(big.Rat).Quo(s.rest(k), s.free(k))
}

// worst returns all nodes with the greatest spread from the node 0.
func (s spreadNet) worst() []int {
	var list []int
	greatest := new(big.Rat)
	for node := range s.n {
		spread := s.spread(0, node)
		if order := spread.Cmp(greatest); order > 0 {
			list, greatest = []int{node}, spread
		} else if order == 0 {
			list = append(list, node)
		}
	}
	return list
}

// looped returns all runs in loops.
func (s spreadNet) looped() []int {
	return slices.DeleteFunc(firstIndexes(len(s.runs)), func(k int) bool { return s.free(k).Sign() == 0 })
}

// blunders returns all runs with the greatest absolute value of the rest divided by what is free.
func (s spreadNet) blunders() []int {
	var list []int
	greatest := new(big.Rat)
	for _, k := range s.looped() {
		number := s.perFree(k)
		if order := number.Abs(number).Cmp(greatest); order > 0 {
			list, greatest = []int{k}, number
		} else if order == 0 {
			list = append(list, k)
		}
	}
	return list
}

// noBlunder tells what makes SpreadBlunder fail.
func (s spreadNet) noBlunder() string {
	if !s.hasHeights() {
		return "height"
	}
	for k := range s.runs {
		if !isValid(s.rise(k)) {
			return "rise"
		}
		if !isValid(s.rest(k)) {
			return "rest"
		}
	}
	looped := s.looped()
	if slices.ContainsFunc(looped, func(k int) bool { return !isValid(s.perFree(k)) }) {
		return "quotient"
	}
	if len(looped) == 0 {
		return "loop"
	}
	return ""
}

// circlingNets have whole adjusted heights and whole rests, which go round loops. They are always the same ones.
func circlingNets() []net {
	var list []net
	source := rand.New(rand.NewPCG(24, 59))
	for n := 2; n <= impl.NodesMax; n++ {
		for size := n; size <= impl.RunsMax; size++ {
			for range 10 * n {
				light := net{n, mixedRuns(source, n, size)}
				if !wantedWhole(n, light.runs) {
					continue
				}
				heavy := net{n, withWeights(light.runs, func(weight int) int { return 8 + weight%2 })}
				list = append(list, circling(source, light, 2520, 1), circling(source, heavy, 8*9, 3), circling(source, heavy, 8*9, 300))
			}
		}
	}
	return list
}

// circling gives a whole net the rises of heights but for rests whose products with the weights are the same all along a loop, up to a multiple of a number that all weights divide.
func circling(source *rand.Rand, v net, multiple int, most int) net {
	heights := make([]int, v.n)
	for node := range heights {
		heights[node] = source.IntN(201) - 100
	}
	runs := fittingRuns(v.runs, heights)
	tree, others := wantedFirst(v)
	for _, k := range others {
		product := multiple * (source.IntN(2*most+1) - most)
		for _, number := range wantedWays(v, tree, []int{k + 1})[0] {
			r := &runs[indexOf(number)]
			r.Rise -= product / r.Weight * (number / (indexOf(number) + 1))
		}
	}
	return net{v.n, runs}
}

// besideLow is NetTrees of the links of a linkNet with a run of weight 1 from the node 0 to the last one of them. It is prime.
const besideLow = linksLow + 9*11*13 + 7*11*13 + 7*9*13 + 7*9*11

// besideNet has a run beside the links of a linkNet whose rest is a number divided by besideLow, and divided by what is free of it the number divided by linksLow.
func besideNet(number int) net {
	links := linkNet(number).runs
	return net{5, append(links[:len(links)-1], run(0, 4, 0, 1))}
}

// besideNets have rests, and rests divided by what is free, at the limit of a quotient and next to it.
func besideNets() []net {
	var list []net
	for by := -12; by <= 12; by++ {
		whole := besideLow * (impl.QuoMax/besideLow + by)
		list = append(list, besideNet(impl.QuoMax+by), besideNet(-impl.QuoMax+by), besideNet(whole), besideNet(-whole))
	}
	return list
}

// behindNets have a last run in no loop, behind links whose heights are near the limit of a quotient. It takes the height of the last node beyond the limit, or back.
func behindNets() []net {
	var list []net
	for _, by := range []int{-40000, -20000, -10000, -5000, -2, 0, 1, 2} {
		for rise := -5; rise <= 5; rise++ {
			links := linkNet(impl.QuoMax + by).runs
			links[len(links)-1] = run(4, 5, rise, 1)
			list = append(list, net{6, links})
		}
	}
	return list
}

// shapes have many nodes of equal spreads. Their weights are the least and the greatest ones.
func shapes() []net {
	var list []net
	for n := 2; n <= impl.NodesMax; n++ {
		all := [][]impl.Run{chain(n, 1), ring(n), append(ring(n), ring(n)...), append(chain(n, 2), chain(n, -3)...)}
		for node := range n {
			all = append(all, starAt(n, node, true), starAt(n, node, false))
		}
		for _, runs := range append(all, complete(min(n, 5)), octahedron(), twoSides()) {
			nodes := 1
			for _, r := range runs {
				nodes = max(nodes, r.From+1, r.To+1)
			}
			list = append(list, net{nodes, runs}, net{nodes, withWeights(runs, constant(1))}, net{nodes, withWeights(runs, constant(impl.WeightMax))})
		}
	}
	return list
}

// branchNets have no loops. They are always the same ones.
func branchNets() []net {
	var list []net
	source := rand.New(rand.NewPCG(24, 61))
	for n := 2; n <= impl.NodesMax; n++ {
		for try := range 200 {
			var runs []impl.Run
			for _, ahead := range source.Perm(n - 1) {
				weight := []int{1, impl.WeightMax, 1 + source.IntN(impl.WeightMax)}[try%3]
				r := run(source.IntN(ahead+1), ahead+1, source.IntN(201)-100, weight)
				if source.IntN(2) == 0 {
					r.From, r.To = r.To, r.From
				}
				runs = append(runs, r)
			}
			list = append(list, net{n, runs})
		}
	}
	return list
}

// spreadNets are all whole nets of these tests. No test changes them.
var spreadNets = sync.OnceValue(func() []spreadNet {
	list := slices.Clone(solvedNets())
	for _, v := range slices.Concat(circlingNets(), besideNets(), behindNets(), shapes(), branchNets(), closedNets()[:1000]) {
		list = append(list, solvedOf(v))
	}
	var nets []spreadNet
	for _, s := range list {
		nets = append(nets, spreadNetOf(s))
	}
	return nets
})

// checkSpread wants a spread that is not beyond a quotient.
func checkSpread(t *testing.T, v net, i int, j int, want *big.Rat) {
	t.Helper()
	quo, good := quoOfRational(want)
	if got, fine := impl.SpreadOf(v.n, v.runs, i, j); got != quo || !fine || !good {
		t.Fatalf("SpreadOf(%d, %v, %d, %d) is %v, %v, wanted %v", v.n, v.runs, i, j, got, fine, want)
	}
}

func spreadOf(t *testing.T, s spreadNet, i int, j int) *big.Rat {
	t.Helper()
	want := s.spread(i, j)
	checkSpread(t, s.net, i, j, want)
	return want
}

func heldOf(t *testing.T, s spreadNet, k int) *big.Rat {
	t.Helper()
	got, fine := impl.SpreadRun(s.n, s.runs, k)
	checkQuo(t, "SpreadRun", s.solved, k, got, fine, s.held(k), true)
	return s.held(k)
}

func freeOf(t *testing.T, s spreadNet, k int) *big.Rat {
	t.Helper()
	got, fine := impl.SpreadFree(s.n, s.runs, k)
	checkQuo(t, "SpreadFree", s.solved, k, got, fine, s.free(k), true)
	return s.free(k)
}

func worstOf(t *testing.T, s spreadNet) int {
	t.Helper()
	got, fine := impl.SpreadWorst(s.n, s.runs)
	if want := s.worst(); got != want[0] || !fine {
		t.Fatalf("SpreadWorst(%d, %v) is %d, %v, wanted the first one of %v", s.n, s.runs, got, fine, want)
	}
	return got
}

func blunderOf(t *testing.T, s spreadNet) (int, bool) {
	t.Helper()
	got, fine := impl.SpreadBlunder(s.n, s.runs)
	lack, want := s.noBlunder(), 0
	if lack == "" {
		want = s.blunders()[0]
	}
	if got != want || fine != (lack == "") {
		t.Fatalf("SpreadBlunder(%d, %v) is %d, %v, wanted %d and no lack of a %q", s.n, s.runs, got, fine, want, lack)
	}
	return got, fine
}

// spreadCases were worked out by hand: the spreads from the node 0, what is free of each run, the worst node, and the run of the blunder or -1 if SpreadBlunder fails.
var spreadCases = []struct {
	name    string
	n       int
	runs    []impl.Run
	spreads []impl.Quo
	frees   []impl.Quo
	worst   int
	blunder int
}{
	{"a run", 2, []impl.Run{run(0, 1, 7, 4)}, []impl.Quo{quo(0, 1), quo(1, 4)}, wholeQuos(0), 1, -1},
	{"the least weight", 2, []impl.Run{run(1, 0, -impl.RiseMax, 1)}, wholeQuos(0, 1), wholeQuos(0), 1, -1},
	{"the greatest weight", 2, []impl.Run{run(1, 0, impl.RiseMax, 9)}, []impl.Quo{quo(0, 1), quo(1, 9)}, wholeQuos(0), 1, -1},
	{"two equal runs", 2, repeated(run(0, 1, 7, 4), 2), []impl.Quo{quo(0, 1), quo(1, 8)}, []impl.Quo{quo(1, 2), quo(1, 2)}, 1, 0},
	{"two rises", 2, []impl.Run{run(0, 1, 5, 1), run(0, 1, 6, 1)}, []impl.Quo{quo(0, 1), quo(1, 2)}, []impl.Quo{quo(1, 2), quo(1, 2)}, 1, 0},
	{"both directions", 2, []impl.Run{run(0, 1, 5, 1), run(1, 0, 6, 1)}, []impl.Quo{quo(0, 1), quo(1, 2)}, []impl.Quo{quo(1, 2), quo(1, 2)}, 1, 0},
	{"rests -1 and 2 with equal quotients", 2, []impl.Run{run(0, 1, 8, 2), run(0, 1, 5, 1)}, []impl.Quo{quo(0, 1), quo(1, 3)}, []impl.Quo{quo(1, 3), quo(2, 3)}, 1, 0},
	{"the least rest with the greatest quotient", 2, []impl.Run{run(0, 1, 0, 1), run(0, 1, 10, 9), run(0, 1, 0, 1)}, []impl.Quo{quo(0, 1), quo(1, 11)}, []impl.Quo{quo(10, 11), quo(2, 11), quo(10, 11)}, 1, 1},
	{"most runs", 2, append(repeated(run(0, 1, 5, 9), 11), run(1, 0, 5, 9)), []impl.Quo{quo(0, 1), quo(1, 108)}, slices.Repeat([]impl.Quo{quo(11, 12)}, 12), 1, 11},
	{"a triangle", 3, []impl.Run{run(0, 1, 5, 1), run(1, 2, 2, 1), run(0, 2, 10, 1)}, []impl.Quo{quo(0, 1), quo(2, 3), quo(2, 3)}, []impl.Quo{quo(1, 3), quo(1, 3), quo(1, 3)}, 1, 0},
	{"a triangle with weights", 3, []impl.Run{run(0, 1, 5, 1), run(1, 2, 2, 2), run(0, 2, 18, 2)}, []impl.Quo{quo(0, 1), quo(1, 2), quo(3, 8)}, []impl.Quo{quo(1, 2), quo(1, 4), quo(1, 4)}, 1, 0},
	{"a triangle and a run in no loop behind it", 4, []impl.Run{run(0, 1, 5, 1), run(1, 2, 2, 1), run(0, 2, 10, 1), run(2, 3, 1, 2)}, []impl.Quo{quo(0, 1), quo(2, 3), quo(2, 3), quo(7, 6)}, []impl.Quo{quo(1, 3), quo(1, 3), quo(1, 3), quo(0, 1)}, 3, 0},
	{"a run in no loop ahead of a triangle", 4, []impl.Run{run(3, 1, 4, 7), run(0, 1, 5, 1), run(1, 2, 2, 1), run(0, 2, 10, 1)}, []impl.Quo{quo(0, 1), quo(2, 3), quo(2, 3), quo(17, 21)}, []impl.Quo{quo(0, 1), quo(1, 3), quo(1, 3), quo(1, 3)}, 3, 1},
	{"the node 0 in no loop", 4, append([]impl.Run{run(0, 1, 4, 5)}, ringAt(1)...), []impl.Quo{quo(0, 1), quo(1, 5), quo(13, 15), quo(13, 15)}, []impl.Quo{quo(0, 1), quo(1, 3), quo(1, 3), quo(1, 3)}, 2, 1},
	{"a ring", 4, ring(4), []impl.Quo{quo(0, 1), quo(3, 4), quo(1, 1), quo(3, 4)}, []impl.Quo{quo(1, 4), quo(1, 4), quo(1, 4), quo(1, 4)}, 2, 0},
	{"all pairs", 4, complete(4), []impl.Quo{quo(0, 1), quo(1, 2), quo(1, 2), quo(1, 2)}, slices.Repeat([]impl.Quo{quo(1, 2)}, 6), 1, 0},
	{"all pairs with one error", 4, withRise(complete(4), 4, -3), []impl.Quo{quo(0, 1), quo(1, 2), quo(1, 2), quo(1, 2)}, slices.Repeat([]impl.Quo{quo(1, 2)}, 6), 1, 4},
	{"a chain", 6, chain(6, 3), []impl.Quo{quo(0, 1), quo(1, 1), quo(3, 2), quo(11, 6), quo(25, 12), quo(137, 60)}, wholeQuos(0, 0, 0, 0, 0), 5, -1},
	{"a chain of the greatest weights", 6, withWeights(chain(6, 3), constant(9)), []impl.Quo{quo(0, 1), quo(1, 9), quo(2, 9), quo(1, 3), quo(4, 9), quo(5, 9)}, wholeQuos(0, 0, 0, 0, 0), 5, -1},
	{"a star", 4, []impl.Run{run(3, 0, 5, 1), run(3, 1, 5, 2), run(3, 2, 5, 2)}, []impl.Quo{quo(0, 1), quo(3, 2), quo(3, 2), quo(1, 1)}, wholeQuos(0, 0, 0), 1, -1},
	{"a star at the node 0", 4, []impl.Run{run(3, 0, 5, 4), run(0, 1, 5, 5), run(2, 0, 5, 4)}, []impl.Quo{quo(0, 1), quo(1, 5), quo(1, 4), quo(1, 4)}, wholeQuos(0, 0, 0), 2, -1},
	{"an octahedron", 6, octahedron(), []impl.Quo{quo(0, 1), quo(5, 12), quo(5, 12), quo(1, 2), quo(5, 12), quo(5, 12)}, slices.Repeat([]impl.Quo{quo(7, 12)}, 12), 3, 0},
	{"an octahedron with one error", 6, withRise(octahedron(), 7, 24), []impl.Quo{quo(0, 1), quo(5, 12), quo(5, 12), quo(1, 2), quo(5, 12), quo(5, 12)}, slices.Repeat([]impl.Quo{quo(7, 12)}, 12), 3, 7},
	{"two triangles", 6, slices.Concat(withRise(ringAt(0), 1, 4), []impl.Run{run(2, 3, 8, 7)}, withRise(ringAt(3), 2, 5)), []impl.Quo{quo(0, 1), quo(2, 3), quo(2, 3), quo(17, 21), quo(31, 21), quo(31, 21)}, []impl.Quo{quo(1, 3), quo(1, 3), quo(1, 3), quo(0, 1), quo(1, 3), quo(1, 3), quo(1, 3)}, 4, 4},
	{"two triangles with opposite errors", 6, slices.Concat(withRise(ringAt(0), 1, -5), []impl.Run{run(2, 3, 8, 7)}, withRise(ringAt(3), 2, 5)), []impl.Quo{quo(0, 1), quo(2, 3), quo(2, 3), quo(17, 21), quo(31, 21), quo(31, 21)}, []impl.Quo{quo(1, 3), quo(1, 3), quo(1, 3), quo(0, 1), quo(1, 3), quo(1, 3), quo(1, 3)}, 4, 0},
	{"two triangles of which one closes", 6, slices.Concat(ringAt(0), []impl.Run{run(2, 3, 8, 7)}, withRise(ringAt(3), 2, -1)), []impl.Quo{quo(0, 1), quo(2, 3), quo(2, 3), quo(17, 21), quo(31, 21), quo(31, 21)}, []impl.Quo{quo(1, 3), quo(1, 3), quo(1, 3), quo(0, 1), quo(1, 3), quo(1, 3), quo(1, 3)}, 4, 4},
	{"a rest at the limit", 2, []impl.Run{run(0, 1, impl.RiseMax, 9), run(1, 0, impl.RiseMax, 9)}, []impl.Quo{quo(0, 1), quo(1, 18)}, []impl.Quo{quo(1, 2), quo(1, 2)}, 1, 0},
}

func TestSpreadCases(t *testing.T) {
	for _, c := range spreadCases {
		for node, want := range c.spreads {
			if got, fine := impl.SpreadOf(c.n, c.runs, 0, node); got != want || !fine {
				t.Errorf("%s: SpreadOf of the nodes 0 and %d is %v, %v, wanted %v", c.name, node, got, fine, want)
			}
		}
		for k, want := range c.frees {
			if got, fine := impl.SpreadFree(c.n, c.runs, k); got != want || !fine {
				t.Errorf("%s: SpreadFree of the run %d is %v, %v, wanted %v", c.name, k, got, fine, want)
			}
			held := quo(want.Low-want.Top, want.Low)
			if got, fine := impl.SpreadRun(c.n, c.runs, k); got != held || !fine {
				t.Errorf("%s: SpreadRun of the run %d is %v, %v, wanted %v", c.name, k, got, fine, held)
			}
		}
		if len(c.spreads) != c.n || len(c.frees) != len(c.runs) {
			t.Errorf("%s: there are not as many quotients as nodes and runs", c.name)
		}
		if got, fine := impl.SpreadWorst(c.n, c.runs); got != c.worst || !fine {
			t.Errorf("%s: SpreadWorst is %d, %v, wanted %d", c.name, got, fine, c.worst)
		}
		if got, fine := impl.SpreadBlunder(c.n, c.runs); got != max(c.blunder, 0) || fine != (c.blunder >= 0) {
			t.Errorf("%s: SpreadBlunder is %d, %v, wanted %d", c.name, got, fine, c.blunder)
		}
	}
}

// TestSpreadDeterminants follows the words of the document: determinants of the matrix with a row and a column for the node 0, too.
func TestSpreadDeterminants(t *testing.T) {
	for _, s := range spreadNets() {
		trees := wantedDet(wantedMatrix(s.net))
		for _, ends := range endsOf(s.n) {
			nodes := slices.DeleteFunc(firstIndexes(s.n), func(node int) bool { return slices.Contains(ends[:], node) })
			det := wantedDet(square(s.n-2, func(i int, j int) int {
				if i == j {
					return weightAt(s.runs, nodes[i])
				}
				return -weightBetween(s.runs, nodes[i], nodes[j])
			}))
			checkSpread(t, s.net, ends[0], ends[1], big.NewRat(int64(det), int64(trees)))
		}
	}
}

// TestSpreadTwoNodes has no rows of which a determinant is asked.
func TestSpreadTwoNodes(t *testing.T) {
	for size := 1; size <= impl.RunsMax; size++ {
		for weight := 1; weight <= impl.WeightMax; weight++ {
			runs := append(repeated(run(1, 0, 3, 1), size-1), run(0, 1, 4, weight))
			sum := size - 1 + weight
			for _, ends := range endsOf(2) {
				checkSpread(t, net{2, runs}, ends[0], ends[1], big.NewRat(1, int64(sum)))
			}
			want, _ := impl.QuoOf(weight, sum)
			if got, fine := impl.SpreadRun(2, runs, size-1); got != want || !fine {
				t.Errorf("SpreadRun of the last run of %v is %v, %v, wanted %v", runs, got, fine, want)
			}
			want, _ = impl.QuoOf(sum-weight, sum)
			if got, fine := impl.SpreadFree(2, runs, size-1); got != want || !fine {
				t.Errorf("SpreadFree of the last run of %v is %v, %v, wanted %v", runs, got, fine, want)
			}
			if got, fine := impl.SpreadWorst(2, runs); got != 1 || !fine {
				t.Errorf("SpreadWorst(2, %v) is %d, %v", runs, got, fine)
			}
		}
	}
}

// TestSpreadsOfOtherRises checks that no spread depends on rises, directions or the order of runs.
func TestSpreadsOfOtherRises(t *testing.T) {
	for _, s := range spreadNets() {
		runs := fittingRuns(s.runs, heightsFor(s.n)[1])
		slices.Reverse(runs)
		for k := range runs {
			if k%2 == 0 {
				runs[k].From, runs[k].To = runs[k].To, runs[k].From
			}
		}
		for _, ends := range endsOf(s.n) {
			checkSpread(t, net{s.n, runs}, ends[0], ends[1], s.spread(ends[0], ends[1]))
		}
		for k := range s.runs {
			first, good := impl.SpreadRun(s.n, s.runs, k)
			if second, fine := impl.SpreadRun(s.n, runs, len(runs)-1-k); first != second || !good || !fine {
				t.Errorf("SpreadRun(%d, %v, %d) is %v, %v, but in the other order with other rises %v, %v", s.n, s.runs, k, first, good, second, fine)
			}
		}
		if got, fine := impl.SpreadWorst(s.n, runs); got != worstOf(t, s) || !fine {
			t.Errorf("SpreadWorst(%d, %v) is %d, %v, wanted %d", s.n, runs, got, fine, worstOf(t, s))
		}
	}
}

func TestPromise59(t *testing.T) {
	counts := map[string]int{}
	for _, s := range spreadNets() {
		if s.n == impl.NodesMax && len(s.runs) == impl.RunsMax {
			counts["nets of most nodes and runs"]++
		}
		if !s.hasHeights() {
			counts["nets without heights"]++
		}
		all := make([][]*big.Rat, s.n)
		for i := range all {
			for j := range s.n {
				all[i] = append(all[i], spreadOf(t, s, i, j))
				if (all[i][j].Sign() == 0) != (i == j) || all[i][j].Sign() < 0 {
					t.Errorf("SpreadOf(%d, %v, %d, %d) is %v", s.n, s.runs, i, j, all[i][j])
				}
			}
		}
		for _, ends := range endsOf(s.n) {
			i, j := ends[0], ends[1]
			if all[i][j].Cmp(all[j][i]) != 0 {
				t.Errorf("SpreadOf(%d, %v, %d, %d) is %v, but %v for the nodes exchanged", s.n, s.runs, i, j, all[i][j], all[j][i])
			}
			for third := range s.n {
				order := all[i][j].Cmp(ratSum([]*big.Rat{all[i][third], all[third][j]}))
				if order > 0 {
					t.Errorf("SpreadOf(%d, %v, %d, %d) is %v, but over the node %d %v and %v", s.n, s.runs, i, j, all[i][j], third, all[i][third], all[third][j])
				}
				if order < 0 {
					counts["less"]++
				} else if third != i && third != j {
					counts["equal"]++
				}
			}
			if weightBetween(s.runs, i, j) == 0 {
				counts["no neighbors"]++
			} else if i*j == 0 {
				counts["neighbors of the node 0"]++
			} else {
				counts["other neighbors"]++
			}
		}
	}
	wantCounts(t, counts, map[string]int{
		"nets of most nodes and runs": 100, "nets without heights": 100, "less": 50000, "equal": 20000,
		"no neighbors": 10000, "neighbors of the node 0": 10000, "other neighbors": 20000,
	})
}

func TestPromise60(t *testing.T) {
	checks := 0
	for _, s := range spreadNets() {
		if len(s.runs) == impl.RunsMax {
			continue
		}
		for _, ends := range endsOf(s.n) {
			checks++
			more := net{s.n, append(slices.Clone(s.runs), run(ends[0], ends[1], checks%100, 1))}
			once := new(big.Rat).Inv(spreadOf(t, s, ends[0], ends[1]))
			want := once.Add(once, wholeRat(1))
			checkSpread(t, more, ends[0], ends[1], want.Inv(want))
			checkSpread(t, more, ends[1], ends[0], want)
		}
	}
	if checks < 50000 {
		t.Errorf("only %d pairs of nodes were checked", checks)
	}
}

// wayBetween returns the runs of the only way between two nodes in a net without loops, each from the node at which the one ahead ends, or false if there is none.
func wayBetween(runs []impl.Run, from int, to int) ([]impl.Run, bool) {
	if from == to {
		return nil, true
	}
	for k, r := range runs {
		if r.To == from {
			r = run(r.To, r.From, -r.Rise, r.Weight)
		}
		if r.From != from {
			continue
		}
		if way, fine := wayBetween(slices.Delete(slices.Clone(runs), k, k+1), r.To, to); fine {
			return append([]impl.Run{r}, way...), true
		}
	}
	return nil, false
}

func TestPromise61(t *testing.T) {
	counts := map[string]int{}
	for _, s := range spreadNets() {
		if impl.NetLoops(s.n, s.runs) != 0 {
			continue
		}
		for _, ends := range endsOf(s.n) {
			way, _ := wayBetween(s.runs, ends[0], ends[1])
			sum := new(big.Rat)
			for _, r := range way {
				sum.Add(sum, big.NewRat(1, int64(r.Weight)))
			}
			spread, first := spreadOf(t, s, ends[0], ends[1]), spreadOf(t, s, ends[0], way[0].To)
			if spread.Cmp(sum) != 0 || first.Cmp(big.NewRat(1, int64(way[0].Weight))) != 0 {
				t.Errorf("SpreadOf(%d, %v, %d, %d) is %v, and over the first run of the way %v, wanted %v", s.n, s.runs, ends[0], ends[1], spread, first, sum)
			}
			if rest := spreadOf(t, s, way[0].To, ends[1]); spread.Cmp(ratSum([]*big.Rat{first, rest})) != 0 {
				t.Errorf("SpreadOf(%d, %v, %d, %d) is %v, but %v over the first run of the way, and %v over the rest", s.n, s.runs, ends[0], ends[1], spread, first, rest)
			}
			if len(way) == 1 {
				counts["neighbors"]++
			} else {
				counts["others"]++
			}
			if len(way) == impl.NodesMax-1 {
				counts["farthest"]++
			}
		}
	}
	wantCounts(t, counts, map[string]int{"neighbors": 5000, "others": 5000, "farthest": 20})
}

func TestPromise62(t *testing.T) {
	counts := map[string]int{}
	for _, s := range spreadNets() {
		var frees []*big.Rat
		needed := 0
		for k := range s.runs {
			free := freeOf(t, s, k)
			frees = append(frees, free)
			if free.Sign() < 0 || free.Cmp(wholeRat(1)) >= 0 {
				t.Errorf("SpreadFree(%d, %v, %d) is %v", s.n, s.runs, k, free)
			}
			if (free.Sign() == 0) != s.needed(k) || s.needed(k) == impl.NetWhole(s.n, wantedWithout(s.net, k).runs) {
				t.Errorf("SpreadFree(%d, %v, %d) is %v, but the run is in no loop: %v", s.n, s.runs, k, free, s.needed(k))
			}
			if free.Sign() == 0 {
				needed++
			}
		}
		loops := wantedLoops(s.n, s.runs)
		if ratSum(frees).Cmp(wholeRat(loops)) != 0 || impl.NetLoops(s.n, s.runs) != loops {
			t.Errorf("SpreadFree is %v for the runs of %d, %v, but NetLoops %d", frees, s.n, s.runs, impl.NetLoops(s.n, s.runs))
		}
		switch {
		case loops == 0:
			counts["without loops"]++
		case needed > 0:
			counts["a run in no loop, beside others"]++
		case loops == 1:
			counts["one loop"]++
		default:
			counts["many loops"]++
		}
		if loops > 0 && s.needed(0) {
			counts["the first run in no loop"]++
		}
		if loops > 0 && s.needed(len(s.runs)-1) {
			counts["the last run in no loop"]++
		}
	}
	wantCounts(t, counts, map[string]int{
		"without loops": 1000, "a run in no loop, beside others": 1000, "one loop": 100, "many loops": 2000,
		"the first run in no loop": 100, "the last run in no loop": 100,
	})
}

func TestPromise63(t *testing.T) {
	checks := 0
	for _, s := range spreadNets() {
		trees := impl.NetTrees(s.n, s.runs)
		for k := range s.runs {
			checks++
			fewer := withoutOf(t, s.net, k)
			without := big.NewRat(int64(impl.NetTrees(fewer.n, fewer.runs)), int64(trees))
			if held := heldOf(t, s, k); held.Cmp(without.Sub(wholeRat(1), without)) != 0 {
				t.Errorf("SpreadRun(%d, %v, %d) is %v, but %v with NetTrees", s.n, s.runs, k, held, without)
			}
		}
	}
	if checks < 50000 {
		t.Errorf("only %d runs were checked", checks)
	}
}

func TestPromise64(t *testing.T) {
	counts := map[string]int{}
	for _, s := range spreadNets() {
		level := fittingRuns(s.runs, heightsFor(s.n)[1])
		for k := range s.runs {
			free := freeOf(t, s, k)
			got, fine := impl.AdjustRest(s.n, withRise(level, k, 12), k)
			if !fine {
				counts["no rest"]++
				continue
			}
			if rational(got).Cmp(free.Mul(free, wholeRat(-12))) != 0 {
				t.Errorf("AdjustRest(%d, %v, %d) is %v, but -12 times SpreadFree %v", s.n, withRise(level, k, 12), k, got, free)
			}
			if got.Top == 0 {
				counts["in no loop"]++
			} else {
				counts["in a loop"]++
			}
		}
	}
	wantCounts(t, counts, map[string]int{"in no loop": 2000, "in a loop": 20000})
}

func TestPromise65(t *testing.T) {
	counts := map[string]int{}
	for _, s := range spreadNets() {
		worst := worstOf(t, s)
		greatest := spreadOf(t, s, 0, worst)
		for node := range s.n {
			order := spreadOf(t, s, 0, node).Cmp(greatest)
			if order > 0 || order == 0 && node < worst {
				t.Errorf("SpreadWorst(%d, %v) is %d, but there is the node %d", s.n, s.runs, worst, node)
			}
		}
		if len(s.worst()) > 1 {
			counts["several"]++
		} else {
			counts["one"]++
		}
		if len(s.worst()) > 1 && worst > 1 {
			counts["several but not the node 1"]++
		}
	}
	wantCounts(t, counts, map[string]int{"several": 200, "one": 5000, "several but not the node 1": 50})
}

// blunderKind tells of a net which runs there are to choose from.
func blunderKind(s spreadNet) string {
	list := s.blunders()
	if len(list) == 1 {
		return "one"
	}
	first := s.perFree(list[0])
	if first.Sign() == 0 {
		return "no rests"
	}
	if slices.ContainsFunc(list, func(k int) bool { return s.perFree(k).Sign() != first.Sign() }) {
		return "several of different signs"
	}
	return "several of one sign"
}

// greatestRest returns the run in a loop with the greatest absolute value of the rest, of several the first one.
func greatestRest(s spreadNet) int {
	greatest, at := wholeRat(-1), 0
	for _, k := range s.looped() {
		if rest := s.rest(k); rest.Abs(rest).Cmp(greatest) > 0 {
			greatest, at = rest, k
		}
	}
	return at
}

func TestPromise66(t *testing.T) {
	counts := map[string]int{}
	for _, s := range spreadNets() {
		blunder, fine := blunderOf(t, s)
		if !fine {
			counts["lacks a "+s.noBlunder()]++
			continue
		}
		if freeOf(t, s, blunder).Sign() == 0 {
			t.Errorf("SpreadBlunder(%d, %v) is %d, which is in no loop", s.n, s.runs, blunder)
			continue
		}
		greatest := s.perFree(blunder)
		for _, k := range s.looped() {
			if number := s.perFree(k); number.Abs(number).Cmp(greatest.Abs(greatest)) > 0 {
				t.Errorf("SpreadBlunder(%d, %v) is %d with %v, but the run %d has %v", s.n, s.runs, blunder, greatest, k, number)
			}
		}
		counts[blunderKind(s)]++
		if blunder != s.looped()[0] {
			counts["not the first run in a loop"]++
		}
		if s.needed(0) {
			counts["the first run in no loop"]++
		}
		if blunder != greatestRest(s) {
			counts["not the greatest rest"]++
		}
	}
	wantCounts(t, counts, map[string]int{
		"lacks a height": 100, "lacks a rise": 15, "lacks a rest": 15, "lacks a quotient": 50, "lacks a loop": 1000,
		"one": 2000, "no rests": 500, "several of one sign": 100, "several of different signs": 100,
		"not the first run in a loop": 1000, "the first run in no loop": 100, "not the greatest rest": 500,
	})
}

// TestBlunderAtLimit has a run whose rest divided by what is free is at the limit of a quotient, or beyond it while all rests are valid.
func TestBlunderAtLimit(t *testing.T) {
	step := impl.QuoMax / besideLow
	cases := []struct {
		number int
		rest   impl.Quo
		fine   bool
	}{
		{impl.QuoMax, quo(impl.QuoMax, besideLow), true},
		{-impl.QuoMax, quo(-impl.QuoMax, besideLow), true},
		{besideLow * step, quo(step, 1), true},
		{-besideLow * step, quo(-step, 1), true},
		{besideLow * (step + 3), quo(step+3, 1), false},
		{-besideLow * (step + 3), quo(-step-3, 1), false},
		{impl.QuoMax + 1, quo(0, 0), false},
		{-impl.QuoMax - 1, quo(0, 0), false},
	}
	for _, c := range cases {
		v := besideNet(c.number)
		last := len(v.runs) - 1
		if got, fine := impl.AdjustRest(v.n, v.runs, last); got != c.rest || fine != (c.rest.Low > 0) {
			t.Errorf("AdjustRest of the last run of %v is %v, %v, wanted %v", v.runs, got, fine, c.rest)
		}
		want := 0
		if c.fine {
			want = last
		}
		if got, fine := impl.SpreadBlunder(v.n, v.runs); got != want || fine != c.fine {
			t.Errorf("SpreadBlunder(%d, %v) is %d, %v, wanted %d, %v", v.n, v.runs, got, fine, want, c.fine)
		}
	}
}

// TestBlunderOfQuotients checks nets of which only the rests divided by what is free are beyond a quotient, also those of runs that have not the greatest one.
func TestBlunderOfQuotients(t *testing.T) {
	counts := map[string]int{}
	for _, s := range spreadNets() {
		if s.noBlunder() != "quotient" {
			continue
		}
		if _, fine := restsOf(t, s.solved); !fine {
			t.Errorf("a rest of %d, %v is no quotient", s.n, s.runs)
		}
		if got, fine := impl.SpreadBlunder(s.n, s.runs); got != 0 || fine {
			t.Errorf("SpreadBlunder(%d, %v) is %d, %v", s.n, s.runs, got, fine)
		}
		if isValid(s.perFree(s.blunders()[0])) {
			counts["not the greatest one"]++
		} else {
			counts["the greatest one"]++
		}
		if isValid(s.perFree(s.looped()[0])) {
			counts["not the first one"]++
		}
		if isValid(s.perFree(s.looped()[len(s.looped())-1])) {
			counts["not the last one"]++
		}
	}
	wantCounts(t, counts, map[string]int{"not the greatest one": 20, "the greatest one": 20, "not the first one": 20, "not the last one": 20})
}

// TestBlunderBehindLinks checks nets in which only the height behind a run in no loop is beyond a quotient.
func TestBlunderBehindLinks(t *testing.T) {
	failed, found := 0, 0
	for _, v := range behindNets() {
		s := spreadNetOf(solvedOf(v))
		links := slices.Clone(s.heights[:5])
		if !slices.ContainsFunc(links, func(r *big.Rat) bool { return !isValid(r) }) && !isValid(s.heights[5]) {
			failed++
		}
		if _, fine := blunderOf(t, s); fine {
			found++
		}
		if got, fine := impl.SpreadFree(v.n, v.runs, len(v.runs)-1); got != quo(0, 1) || !fine {
			t.Errorf("SpreadFree of the last run of %v is %v, %v", v.runs, got, fine)
		}
	}
	if failed < 10 || found < 10 {
		t.Errorf("only %d nets have no height behind the links, and %d a blunder", failed, found)
	}
}

// TestCirclingNets checks that the nets have the rests for which they are made.
func TestCirclingNets(t *testing.T) {
	nets := circlingNets()
	counts := map[string]int{}
	for _, v := range nets {
		rests, fine := restsOf(t, solvedOf(v))
		if slices.ContainsFunc(rests, func(r *big.Rat) bool { return !r.IsInt() }) {
			t.Errorf("the rests of %d, %v are %v", v.n, v.runs, rests)
		}
		if fine && !sameRats(rests, zeroRats(len(rests))) {
			counts["with rests"]++
		}
	}
	wantCounts(t, counts, map[string]int{"with rests": 500})
}

func TestPromise67(t *testing.T) {
	counts := map[string]int{}
	for _, s := range spreadNets() {
		for k := range s.runs {
			held := heldOf(t, s, k)
			rise, fine := impl.AdjustRun(s.n, s.runs, k)
			if !fine || rise.Low != 1 || !within(rise.Top, impl.RiseMax) {
				continue
			}
			rest, good := restOf(t, s.solved, k)
			again, fine := impl.AdjustRest(s.n, withRise(s.runs, k, rise.Top-s.runs[k].Rise), k)
			if !good || !fine {
				counts["no rest"]++
				continue
			}
			if rational(again).Cmp(new(big.Rat).Mul(rest, held)) != 0 {
				t.Errorf("AdjustRest(%d, %v, %d) is %v, with the adjusted rise %v, and SpreadRun %v", s.n, s.runs, k, rest, again, held)
			}
			if rest.Sign() == 0 {
				counts["no error"]++
			} else {
				counts["an error"]++
			}
		}
	}
	wantCounts(t, counts, map[string]int{"no error": 5000, "an error": 5000})
}

func TestPromise68(t *testing.T) {
	counts := map[string]int{}
	for _, s := range spreadNets() {
		if len(s.runs) == impl.RunsMax {
			continue
		}
		trees := impl.NetTrees(s.n, s.runs)
		for _, ends := range endsOf(s.n) {
			counts["pairs"]++
			longer := net{s.n, append(slices.Clone(s.runs), run(ends[0], ends[1], 5, 1))}
			more := impl.NetTrees(longer.n, longer.runs) - trees
			if spread := spreadOf(t, s, ends[0], ends[1]); spread.Mul(spread, wholeRat(trees)).Cmp(wholeRat(more)) != 0 {
				t.Errorf("SpreadOf(%d, %v, %d, %d) is %v times the trees, but a run gives %d more", s.n, s.runs, ends[0], ends[1], spread, more)
			}
			merged, fine := mergedOf(t, longer, len(s.runs))
			if !fine {
				counts["of two nodes"]++
				continue
			}
			if got := impl.NetTrees(merged.n, merged.runs); got != more {
				t.Errorf("NetTrees(%d, %v) is %d, but a run between both nodes gives %d trees more", merged.n, merged.runs, got, more)
			}
		}
	}
	wantCounts(t, counts, map[string]int{"pairs": 50000, "of two nodes": 500})
}

func TestPromise69(t *testing.T) {
	checks := 0
	for _, s := range spreadNets() {
		if s.n == impl.NodesMax || len(s.runs) == impl.RunsMax {
			continue
		}
		for k, r := range s.runs {
			if 2*r.Weight > impl.WeightMax {
				continue
			}
			checks++
			runs := append(wantedWithout(s.net, k).runs, run(r.From, s.n, 8, 2*r.Weight), run(r.To, s.n, -7, 2*r.Weight))
			checkSpread(t, net{s.n + 1, runs}, r.From, r.To, spreadOf(t, s, r.From, r.To))
		}
	}
	if checks < 5000 {
		t.Errorf("only %d runs were divided", checks)
	}
}

// checkNoSpread wants SpreadOf to fail.
func checkNoSpread(t *testing.T, v net, i int, j int) {
	t.Helper()
	if got, fine := impl.SpreadOf(v.n, v.runs, i, j); got != (impl.Quo{}) || fine {
		t.Errorf("SpreadOf is %v, %v for the nodes %d and %d of %d and %d runs, %v at the end", got, fine, i, j, v.n, len(v.runs), v.runs[max(0, len(v.runs)-2):])
	}
}

func checkNoSpreadRun(t *testing.T, v net, k int) {
	t.Helper()
	name := v.runs[max(0, len(v.runs)-2):]
	if got, fine := impl.SpreadRun(v.n, v.runs, k); got != (impl.Quo{}) || fine {
		t.Errorf("SpreadRun of the run %d is %v, %v for %d nodes and %d runs, %v at the end", k, got, fine, v.n, len(v.runs), name)
	}
	if got, fine := impl.SpreadFree(v.n, v.runs, k); got != (impl.Quo{}) || fine {
		t.Errorf("SpreadFree of the run %d is %v, %v for %d nodes and %d runs, %v at the end", k, got, fine, v.n, len(v.runs), name)
	}
}

// checkNoSpreads wants all functions to fail for a net, also for equal nodes.
func checkNoSpreads(t *testing.T, v net, nodes []int, indexes []int) {
	t.Helper()
	for _, i := range nodes {
		for _, j := range nodes {
			checkNoSpread(t, v, i, j)
		}
	}
	for _, k := range indexes {
		checkNoSpreadRun(t, v, k)
	}
	name := v.runs[max(0, len(v.runs)-2):]
	if got, fine := impl.SpreadWorst(v.n, v.runs); got != 0 || fine {
		t.Errorf("SpreadWorst is %d, %v for %d nodes and %d runs, %v at the end", got, fine, v.n, len(v.runs), name)
	}
	if got, fine := impl.SpreadBlunder(v.n, v.runs); got != 0 || fine {
		t.Errorf("SpreadBlunder is %d, %v for %d nodes and %d runs, %v at the end", got, fine, v.n, len(v.runs), name)
	}
}

// TestSpreadPartedNets checks nets that are valid but not whole, some of them without runs.
func TestSpreadPartedNets(t *testing.T) {
	nets := partedNets()
	bare := 0
	for _, v := range nets {
		checkNoSpreads(t, v, firstIndexes(v.n), firstIndexes(len(v.runs)))
		if len(v.runs) == 0 {
			bare++
		}
	}
	if len(nets) < 2000 || bare < 10 {
		t.Errorf("only %d nets are not whole, and %d without runs", len(nets), bare)
	}
}

func TestSpreadInvalidNets(t *testing.T) {
	for _, v := range slices.Concat(loopedInvalidNets(), linkedInvalidNets(), invalidNets()) {
		nodes := []int{0, 1, v.n - 1, v.n, -1, math.MinInt, math.MaxInt}
		checkNoSpreads(t, v, nodes, append(firstIndexes(min(len(v.runs), 15)), -1, len(v.runs)-1, len(v.runs), math.MinInt, math.MaxInt))
	}
}

// indexedNets are whole nets for indexes and nodes that there are not.
func indexedNets() []net {
	return slices.DeleteFunc(slices.Concat(hangingNets(), shapes(), limitNets(), treeNets(), mixedNets()), func(v net) bool { return !wantedWhole(v.n, v.runs) })
}

func TestSpreadNodes(t *testing.T) {
	for _, v := range indexedNets() {
		for _, node := range append([]int{-1, -2, -v.n, v.n, v.n + 1, 2 * v.n, impl.NodesMax, impl.NodesMax + 1, 1000}, badNumbers...) {
			if between(0, node, v.n-1) {
				continue
			}
			checkNoSpread(t, v, node, node)
			checkNoSpread(t, v, node, -1)
			checkNoSpread(t, v, v.n, node)
			for other := range v.n {
				checkNoSpread(t, v, node, other)
				checkNoSpread(t, v, other, node)
			}
		}
	}
}

func TestSpreadRunIndexes(t *testing.T) {
	for _, v := range indexedNets() {
		size := len(v.runs)
		for _, k := range append([]int{-1, -2, -size, -size - 1, size, size + 1, 2 * size, impl.RunsMax, impl.RunsMax + 1, 1000}, badNumbers...) {
			if !between(0, k, size-1) {
				checkNoSpreadRun(t, v, k)
			}
		}
	}
}

// TestSpreadArgumentsStay gives lists with room behind their ends, which must stay as well.
func TestSpreadArgumentsStay(t *testing.T) {
	for _, s := range spreadNets() {
		room := append(slices.Clone(s.runs), run(1, 0, 77, 3), run(8, 9, 77, 3))
		roomAhead := slices.Clone(room)
		runs := room[:len(s.runs)]
		impl.SpreadOf(s.n, runs, 0, s.n-1)
		impl.SpreadOf(s.n, runs, 1, 1)
		impl.SpreadRun(s.n, runs, len(runs)-1)
		impl.SpreadFree(s.n, runs, 0)
		impl.SpreadWorst(s.n, runs)
		impl.SpreadBlunder(s.n, runs)
		if !slices.Equal(room, roomAhead) {
			t.Fatalf("an argument is changed: %v, wanted %v", room, roomAhead)
		}
	}
}
