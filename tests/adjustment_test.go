package tests

import (
	"math"
	"math/big"
	"math/rand/v2"
	"slices"
	"sync"
	"testing"

	"loop.example/levellingnet/impl"
)

// solved is a whole net with its adjusted heights in fractions that have no limits.
type solved struct {
	net
	heights []*big.Rat
}

func wholeRat(number int) *big.Rat {
	return big.NewRat(int64(number), 1)
}

func zeroRats(size int) []*big.Rat {
	list := make([]*big.Rat, size)
	for i := range list {
		list[i] = new(big.Rat)
	}
	return list
}

func ratSum(list []*big.Rat) *big.Rat {
	sum := new(big.Rat)
	for _, r := range list {
		sum.Add(sum, r)
	}
	return sum
}

func sameRats(a []*big.Rat, b []*big.Rat) bool {
	return slices.EqualFunc(a, b, func(x *big.Rat, y *big.Rat) bool { return x.Cmp(y) == 0 })
}

func rationals(list []impl.Quo) []*big.Rat {
	var all []*big.Rat
	for _, q := range list {
		all = append(all, rational(q))
	}
	return all
}

func isValid(r *big.Rat) bool {
	_, fine := quoOfRational(r)
	return fine
}

// slopes returns for each node but the node 0 an equation: the factors of the heights, and the number that they give together, if the weighted rests at the node are 0 together. The equation of the node 0 is that its height is 0.
func slopes(v net) [][]*big.Rat {
	rows := make([][]*big.Rat, v.n)
	for node := range rows {
		rows[node] = zeroRats(v.n + 1)
	}
	add := func(node int, place int, number int) {
		if node != 0 {
			rows[node][place].Add(rows[node][place], wholeRat(number))
		}
	}
	for _, r := range v.runs {
		add(r.To, r.To, r.Weight)
		add(r.To, r.From, -r.Weight)
		add(r.To, v.n, r.Weight*r.Rise)
		add(r.From, r.From, r.Weight)
		add(r.From, r.To, -r.Weight)
		add(r.From, v.n, -r.Weight*r.Rise)
	}
	rows[0][0].SetInt64(1)
	return rows
}

// eliminate leaves in each row of the equations of a whole net only the factor in its own place. In such a net no row that is still to come begins with 0.
func eliminate(rows [][]*big.Rat) {
	for place, row := range rows {
		for i, other := range rows {
			if i == place || other[place].Sign() == 0 {
				continue
			}
			factor := new(big.Rat).Quo(other[place], row[place])
			for j := range other {
				other[j].Sub(other[j], new(big.Rat).Mul(factor, row[j]))
			}
		}
	}
}

// solvedOf wants a whole net.
func solvedOf(v net) solved {
	rows := slopes(v)
	eliminate(rows)
	heights := zeroRats(v.n)
	for node := range heights {
		heights[node].Quo(rows[node][v.n], rows[node][node])
	}
	return solved{v, heights}
}

func (s solved) rise(k int) *big.Rat {
	return new(big.Rat).Sub(s.heights[s.runs[k].To], s.heights[s.runs[k].From])
}

func (s solved) rest(k int) *big.Rat {
	rise := s.rise(k)
	return rise.Sub(rise, wholeRat(s.runs[k].Rise))
}

func (s solved) square(k int) *big.Rat {
	rest := s.rest(k)
	return rest.Mul(rest, rest)
}

func (s solved) product(k int) *big.Rat {
	square := s.square(k)
	return square.Mul(square, wholeRat(s.runs[k].Weight))
}

// sum is that of the first runs.
func (s solved) sum(size int) *big.Rat {
	sum := new(big.Rat)
	for k := range size {
		sum.Add(sum, s.product(k))
	}
	return sum
}

func (s solved) hasHeights() bool {
	return !slices.ContainsFunc(s.heights, func(r *big.Rat) bool { return !isValid(r) })
}

func (s solved) hasRise(k int) bool {
	return s.hasHeights() && isValid(s.rise(k))
}

func (s solved) hasRest(k int) bool {
	return s.hasRise(k) && isValid(s.rest(k))
}

func (s solved) hasSum() bool {
	return s.lacks() == ""
}

// lacks tells what is no valid quotient, and makes AdjustSum fail.
func (s solved) lacks() string {
	if !s.hasHeights() {
		return "height"
	}
	for k := range s.runs {
		switch {
		case !isValid(s.rise(k)):
			return "rise"
		case !isValid(s.rest(k)):
			return "rest"
		case !isValid(s.square(k)):
			return "square"
		case !isValid(s.product(k)):
			return "product"
		case !isValid(s.sum(k + 1)):
			return "sum"
		}
	}
	return ""
}

// needed tells that the net is not whole without a run: it is in no loop.
func (s solved) needed(k int) bool {
	return !wantedWhole(s.n, wantedWithout(s.net, k).runs)
}

// scaledNets have rises and weights of all sizes, always the same ones.
func scaledNets() []net {
	var list []net
	source := rand.New(rand.NewPCG(23, 51))
	for n := 2; n <= impl.NodesMax; n++ {
		for size := n - 1; size <= impl.RunsMax; size++ {
			for try := range 60 {
				runs := mixedRuns(source, n, size)
				scale := []int{1, 10, 100, 1000, 10000, 50000}[try%6]
				heavy := 1 + source.IntN(impl.WeightMax)
				for k := range runs {
					runs[k].Rise /= scale
					runs[k].Weight = 1 + runs[k].Weight%heavy
				}
				list = append(list, net{n, runs})
			}
		}
	}
	return list
}

// nearNets have heights of both signs near the limit of a quotient, so that some differences are beyond it. Some have a run with a great rest. They are always the same ones.
func nearNets() []net {
	var list []net
	source := rand.New(rand.NewPCG(23, 54))
	for n := 4; n <= impl.NodesMax; n++ {
		for size := n + 3; size <= impl.RunsMax; size++ {
			for try := range 120 {
				runs := withWeights(mixedRuns(source, n, size), func(weight int) int { return 4 + weight/2 })
				far := (2 + try%8) * impl.QuoMax / 6 / max(1, wantedDet(wantedMatrix(net{n, runs})))
				far = min(far, impl.RiseMax/2-50)
				runs = fittingRuns(runs, []int{0, far, -far, far - far/3, far/3 - far, far / 2}[:n])
				for k := range runs {
					runs[k].Rise += source.IntN(101) - 50
				}
				if try%3 == 0 {
					runs[0].Rise *= -1
				}
				list = append(list, net{n, runs})
			}
		}
	}
	return list
}

// linkRuns returns two runs between two nodes whose adjusted rise alone is a number divided by both weights together. These have no common divisor.
func linkRuns(from int, to int, number int, weight int, other int) []impl.Run {
	rise := number / (weight + other)
	for (number-other*rise)%weight != 0 {
		rise++
	}
	return []impl.Run{run(from, to, (number-other*rise)/weight, weight), run(from, to, rise, other)}
}

var linkWeights = [][2]int{{3, 4}, {4, 5}, {5, 6}, {4, 9}}

const linksLow = 7 * 9 * 11 * 13

// linkNet returns a chain of pairs of runs whose last node but one has a height of a number divided by linksLow. A run in no loop leads from the node 0 to the last node.
func linkNet(number int) net {
	var runs []impl.Run
	left := number
	for i, weights := range linkWeights {
		low := weights[0] + weights[1]
		step := linksLow / low
		top := number / len(linkWeights) / step
		for i < len(linkWeights)-1 && (left-top*step)%low != 0 {
			top++
		}
		if i == len(linkWeights)-1 {
			top = left / step
		}
		left -= top * step
		runs = append(runs, linkRuns(i, i+1, top, weights[0], weights[1])...)
	}
	return net{6, append(runs, run(0, 5, -7, 3))}
}

// balancedNets have whole adjusted heights, but do not close: each run stands there twice, once as much too high as the other one too low.
func balancedNets() []net {
	var list []net
	for i, v := range allTreeNets() {
		if len(v.runs) == 0 || len(v.runs) > impl.RunsMax/2 {
			continue
		}
		for _, heights := range heightsFor(v.n)[:2] {
			runs := fittingRuns(v.runs, heights)
			high, low := slices.Clone(runs), slices.Clone(runs)
			for k := range runs {
				high[k].Rise += (i + 3*k) % 5
				low[k].Rise -= (i + 3*k) % 5
			}
			list = append(list, net{v.n, append(high, low...)})
		}
	}
	return list
}

// hangingNets have loops and, beside them, runs that are in none.
func hangingNets() []net {
	most := impl.RiseMax
	open := []impl.Run{run(0, 1, 5, 1), run(2, 1, 3, 2), run(0, 2, 4, 3)}
	far := []impl.Run{run(0, 1, most, 1), run(1, 2, most, 9), run(2, 0, most, 5)}
	return []net{
		{4, append(slices.Clone(open), run(0, 3, 7, 4))}, {4, append(slices.Clone(open), run(3, 1, 7, 4))},
		{5, append([]impl.Run{run(4, 2, -most, 1), run(4, 3, most, 9)}, open...)},
		{6, append([]impl.Run{run(3, 4, 0, 1), run(5, 3, -most, 9), run(5, 1, most, 1)}, far...)},
		{6, append(append(ringAt(0), withRise(ringAt(3), 1, 5)...), run(2, 3, most, 7))},
		{6, append(append(ringAt(0), withRise(ringAt(3), 0, -8)...), run(4, 1, -most, 1))},
		{4, append(repeated(run(1, 2, 5, 1), 9), run(1, 2, 7, 9), run(0, 1, 1, 2), run(3, 2, 1, 3))},
		{6, []impl.Run{run(0, 1, most, 1), run(0, 1, most-1, 1), run(1, 2, 3, 4), run(2, 3, 5, 6), run(4, 3, 7, 8), run(5, 4, 9, 9)}},
	}
}

// linkNets have heights at the limit of a quotient and next to it.
func linkNets() []net {
	var list []net
	for by := -20; by <= 20; by++ {
		list = append(list, linkNet(impl.QuoMax+by), linkNet(-impl.QuoMax+by))
	}
	return list
}

// squareNets have a square that is no valid quotient, but the products and their sums are such.
func squareNets() []net {
	return []net{
		{5, []impl.Run{run(4, 2, 0, 9), run(1, 2, 0, 9), run(4, 3, 0, 4), run(3, 1, 0, 9), run(2, 1, 0, 9), run(1, 2, 0, 4), run(2, 3, 0, 4), run(0, 3, 0, 9), run(4, 2, 1, 4), run(2, 0, 0, 9), run(0, 1, 0, 9)}},
		{6, []impl.Run{run(4, 3, 0, 4), run(2, 5, 0, 9), run(3, 5, 2, 1), run(1, 5, 0, 4), run(3, 5, 0, 9), run(5, 1, 0, 9), run(4, 2, 0, 4), run(2, 0, 0, 4), run(0, 1, 0, 9)}},
		{6, []impl.Run{run(1, 5, 0, 9), run(5, 4, 0, 9), run(3, 2, 0, 4), run(3, 5, 0, 4), run(5, 3, 0, 9), run(0, 4, 0, 4), run(3, 5, 0, 4), run(3, 4, 0, 9), run(0, 1, 0, 4), run(3, 0, 1, 4), run(1, 3, 0, 4), run(1, 0, 0, 4)}},
	}
}

func allAdjustNets() []net {
	return slices.Concat(hangingNets(), linkNets(), squareNets(), balancedNets(), scaledNets(), nearNets(), allMatrixNets())
}

// solvedNets are all whole nets of these tests. They are solved once, and no test changes them.
var solvedNets = sync.OnceValue(func() []solved {
	var list []solved
	for _, v := range allAdjustNets() {
		if wantedWhole(v.n, v.runs) {
			list = append(list, solvedOf(v))
		}
	}
	return list
})

func partedNets() []net {
	return slices.DeleteFunc(allAdjustNets(), func(v net) bool { return wantedWhole(v.n, v.runs) })
}

// heightsOf wants AdjustHeights to give the heights of the net if these are quotients, and to fail otherwise.
func heightsOf(t *testing.T, s solved) ([]*big.Rat, bool) {
	t.Helper()
	list, fine := impl.AdjustHeights(s.n, s.runs)
	if fine != s.hasHeights() || !fine && len(list) != 0 {
		t.Fatalf("AdjustHeights(%d, %v) is %v, %v, but the heights are %v", s.n, s.runs, list, fine, s.heights)
	}
	if fine && (slices.ContainsFunc(list, func(q impl.Quo) bool { return !impl.QuoValid(q) }) || !sameRats(rationals(list), s.heights)) {
		t.Fatalf("AdjustHeights(%d, %v) is %v, wanted %v", s.n, s.runs, list, s.heights)
	}
	return rationals(list), fine
}

func checkQuo(t *testing.T, name string, s solved, k int, got impl.Quo, fine bool, want *big.Rat, good bool) {
	t.Helper()
	quo := impl.Quo{}
	if good {
		quo, _ = quoOfRational(want)
	}
	if got != quo || fine != good {
		t.Fatalf("%s(%d, %v, %d) is %v, %v, wanted %v, %v", name, s.n, s.runs, k, got, fine, quo, good)
	}
}

func riseOf(t *testing.T, s solved, k int) (*big.Rat, bool) {
	t.Helper()
	got, fine := impl.AdjustRun(s.n, s.runs, k)
	checkQuo(t, "AdjustRun", s, k, got, fine, s.rise(k), s.hasRise(k))
	return s.rise(k), fine
}

func restOf(t *testing.T, s solved, k int) (*big.Rat, bool) {
	t.Helper()
	got, fine := impl.AdjustRest(s.n, s.runs, k)
	checkQuo(t, "AdjustRest", s, k, got, fine, s.rest(k), s.hasRest(k))
	return s.rest(k), fine
}

func sumOfRests(t *testing.T, s solved) (*big.Rat, bool) {
	t.Helper()
	got, fine := impl.AdjustSum(s.n, s.runs)
	sum := s.sum(len(s.runs))
	checkQuo(t, "AdjustSum", s, len(s.runs), got, fine, sum, s.hasSum())
	return sum, fine
}

// restsOf returns all rests, and false if one of them fails.
func restsOf(t *testing.T, s solved) ([]*big.Rat, bool) {
	t.Helper()
	var rests []*big.Rat
	for k := range s.runs {
		rest, fine := restOf(t, s, k)
		if !fine {
			return nil, false
		}
		rests = append(rests, rest)
	}
	return rests, true
}

func quo(top int, low int) impl.Quo {
	return impl.Quo{Top: top, Low: low}
}

func wholeQuos(list ...int) []impl.Quo {
	var quos []impl.Quo
	for _, number := range list {
		quos = append(quos, quo(number, 1))
	}
	return quos
}

// adjustCases were worked out by hand. The sum of some is no valid quotient.
var adjustCases = []struct {
	name    string
	n       int
	runs    []impl.Run
	heights []impl.Quo
	rests   []impl.Quo
	sum     impl.Quo
}{
	{"a run", 2, []impl.Run{run(0, 1, 7, 4)}, wholeQuos(0, 7), wholeQuos(0), quo(0, 1)},
	{"a run to the node 0", 2, []impl.Run{run(1, 0, 7, 9)}, wholeQuos(0, -7), wholeQuos(0), quo(0, 1)},
	{"two equal runs", 2, repeated(run(0, 1, 7, 4), 2), wholeQuos(0, 7), wholeQuos(0, 0), quo(0, 1)},
	{"two rises", 2, []impl.Run{run(0, 1, 5, 1), run(0, 1, 6, 1)}, []impl.Quo{quo(0, 1), quo(11, 2)}, []impl.Quo{quo(1, 2), quo(-1, 2)}, quo(1, 2)},
	{"both directions", 2, []impl.Run{run(0, 1, 5, 1), run(1, 0, 6, 1)}, []impl.Quo{quo(0, 1), quo(-1, 2)}, []impl.Quo{quo(-11, 2), quo(-11, 2)}, quo(121, 2)},
	{"two weights", 2, []impl.Run{run(0, 1, 5, 1), run(0, 1, 8, 2)}, wholeQuos(0, 7), wholeQuos(2, -1), quo(6, 1)},
	{"two weights and directions", 2, []impl.Run{run(1, 0, 5, 1), run(0, 1, 8, 9)}, []impl.Quo{quo(0, 1), quo(67, 10)}, []impl.Quo{quo(-117, 10), quo(-13, 10)}, quo(1521, 10)},
	{"many runs", 2, append(repeated(run(0, 1, impl.RiseMax, 9), 11), run(0, 1, impl.RiseMax-12, 9)), wholeQuos(0, impl.RiseMax-1), wholeQuos(-1, -1, -1, -1, -1, -1, -1, -1, -1, -1, -1, 11), quo(1188, 1)},
	{"a triangle that closes", 3, []impl.Run{run(0, 1, 5, 1), run(2, 1, 2, 2), run(0, 2, 3, 2)}, wholeQuos(0, 5, 3), wholeQuos(0, 0, 0), quo(0, 1)},
	{"a triangle", 3, []impl.Run{run(0, 1, 5, 1), run(1, 2, 2, 1), run(0, 2, 10, 1)}, wholeQuos(0, 6, 9), wholeQuos(1, 1, -1), quo(3, 1)},
	{"a triangle with weights", 3, []impl.Run{run(0, 1, 5, 1), run(1, 2, 2, 2), run(0, 2, 18, 2)}, []impl.Quo{quo(0, 1), quo(21, 2), quo(61, 4)}, []impl.Quo{quo(11, 2), quo(11, 4), quo(-11, 4)}, quo(121, 2)},
	{"a triangle and a run in no loop", 4, []impl.Run{run(3, 1, 4, 7), run(0, 1, 5, 1), run(1, 2, 2, 1), run(0, 2, 10, 1)}, wholeQuos(0, 6, 9, 2), wholeQuos(0, 1, 1, -1), quo(3, 1)},
	{"a ring", 4, []impl.Run{run(0, 1, 1, 1), run(1, 2, 1, 1), run(2, 3, 1, 1), run(3, 0, 1, 1)}, wholeQuos(0, 0, 0, 0), wholeQuos(-1, -1, -1, -1), quo(4, 1)},
	{"a chain", 6, chain(6, impl.RiseMax), wholeQuos(0, 100000, 200000, 300000, 400000, 500000), wholeQuos(0, 0, 0, 0, 0), quo(0, 1)},
	{"a chain down", 6, chain(6, -impl.RiseMax), wholeQuos(0, -100000, -200000, -300000, -400000, -500000), wholeQuos(0, 0, 0, 0, 0), quo(0, 1)},
	{"an octahedron with one error", 6, withRise(octahedron(), 0, 24), wholeQuos(0, 10, 5, 6, 4, 5), wholeQuos(-14, 5, 4, 5, -5, -4, -5, 1, -1, -2, -1, 1), quo(336, 1)},
	{"a sum at the limit", 2, []impl.Run{run(0, 1, 10000, 5), run(0, 1, -10000, 5)}, wholeQuos(0, 0), wholeQuos(-10000, 10000), quo(impl.QuoMax, 1)},
	{"a sum at the limit, and a run in no loop", 3, []impl.Run{run(0, 1, 10000, 5), run(0, 1, -10000, 5), run(1, 2, 8, 3)}, wholeQuos(0, 0, 8), wholeQuos(-10000, 10000, 0), quo(impl.QuoMax, 1)},
	{"a sum beyond the limit", 3, []impl.Run{run(0, 1, 10000, 5), run(0, 1, -10000, 5), run(1, 2, 1, 1), run(2, 1, 1, 1)}, wholeQuos(0, 0, 0), wholeQuos(-10000, 10000, -1, -1), quo(0, 0)},
	{"a sum near the limit", 2, []impl.Run{run(0, 1, 22360, 1), run(0, 1, -22360, 1)}, wholeQuos(0, 0), wholeQuos(-22360, 22360), quo(999939200, 1)},
	{"a sum beyond the limit", 2, []impl.Run{run(0, 1, 22361, 1), run(0, 1, -22361, 1)}, wholeQuos(0, 0), wholeQuos(-22361, 22361), quo(0, 0)},
	{"a product beyond the limit", 2, []impl.Run{run(0, 1, 10541, 9), run(0, 1, -10541, 9)}, wholeQuos(0, 0), wholeQuos(-10541, 10541), quo(0, 0)},
	{"a square beyond the limit", 2, []impl.Run{run(0, 1, 31623, 1), run(0, 1, -31623, 1)}, wholeQuos(0, 0), wholeQuos(-31623, 31623), quo(0, 0)},
	{"the greatest rests", 2, []impl.Run{run(0, 1, impl.RiseMax, 9), run(1, 0, impl.RiseMax, 9)}, wholeQuos(0, 0), wholeQuos(-impl.RiseMax, -impl.RiseMax), quo(0, 0)},
}

func TestAdjustCases(t *testing.T) {
	for _, c := range adjustCases {
		if got, fine := impl.AdjustHeights(c.n, c.runs); !slices.Equal(got, c.heights) || !fine {
			t.Errorf("%s: AdjustHeights is %v, %v, wanted %v", c.name, got, fine, c.heights)
		}
		for k, rest := range c.rests {
			want, _ := quoOfRational(new(big.Rat).Add(rational(rest), wholeRat(c.runs[k].Rise)))
			if got, fine := impl.AdjustRun(c.n, c.runs, k); got != want || !fine {
				t.Errorf("%s: AdjustRun of the run %d is %v, %v, wanted %v", c.name, k, got, fine, want)
			}
			if got, fine := impl.AdjustRest(c.n, c.runs, k); got != rest || !fine {
				t.Errorf("%s: AdjustRest of the run %d is %v, %v, wanted %v", c.name, k, got, fine, rest)
			}
		}
		if got, fine := impl.AdjustSum(c.n, c.runs); got != c.sum || fine != (c.sum.Low > 0) {
			t.Errorf("%s: AdjustSum is %v, %v, wanted %v", c.name, got, fine, c.sum)
		}
	}
}

// TestAdjustAtLimit has a run in no loop, which fails with the heights of other nodes.
func TestAdjustAtLimit(t *testing.T) {
	cases := []struct {
		number int
		want   impl.Quo
	}{
		{impl.QuoMax - 2, quo(impl.QuoMax-2, linksLow)},
		{impl.QuoMax, quo(impl.QuoMax, linksLow)},
		{impl.QuoMax + 1, quo((impl.QuoMax+1)/1001, 9)},
		{impl.QuoMax + 3, quo(0, 0)},
		{-impl.QuoMax + 2, quo(-impl.QuoMax+2, linksLow)},
		{-impl.QuoMax, quo(-impl.QuoMax, linksLow)},
		{-impl.QuoMax - 1, quo((-impl.QuoMax-1)/1001, 9)},
		{-impl.QuoMax - 3, quo(0, 0)},
		{3 * impl.QuoMax, quo(impl.QuoMax, linksLow/3)},
		{3*impl.QuoMax + 9, quo(0, 0)},
		{-3 * impl.QuoMax, quo(-impl.QuoMax, linksLow/3)},
	}
	for _, c := range cases {
		v := linkNet(c.number)
		last := len(v.runs) - 1
		rise, rest, good := quo(-7, 1), quo(0, 1), c.want.Low > 0
		if !good {
			rise, rest = impl.Quo{}, impl.Quo{}
		}
		got, fine := impl.AdjustHeights(v.n, v.runs)
		if fine != good || fine && got[4] != c.want || !fine && len(got) != 0 {
			t.Errorf("AdjustHeights(%d, %v) is %v, %v, wanted %v behind the links", v.n, v.runs, got, fine, c.want)
		}
		if got, fine := impl.AdjustRun(v.n, v.runs, last); got != rise || fine != good {
			t.Errorf("AdjustRun of the last run of %v is %v, %v, wanted %v", v.runs, got, fine, rise)
		}
		if got, fine := impl.AdjustRest(v.n, v.runs, last); got != rest || fine != good {
			t.Errorf("AdjustRest of the last run of %v is %v, %v, wanted %v", v.runs, got, fine, rest)
		}
	}
}

func wantCounts(t *testing.T, counts map[string]int, least map[string]int) {
	t.Helper()
	for name, count := range least {
		if counts[name] < count {
			t.Errorf("only %d were checked: %s", counts[name], name)
		}
	}
}

// TestAdjusted compares all results with fractions that have no limits.
func TestAdjusted(t *testing.T) {
	counts := map[string]int{}
	for _, s := range solvedNets() {
		heightsOf(t, s)
		for k := range s.runs {
			riseOf(t, s, k)
			restOf(t, s, k)
		}
		sum, fine := sumOfRests(t, s)
		counts[s.lacks()]++
		if !fine && isValid(sum) {
			counts[s.lacks()+", but the sum is valid"]++
		}
	}
	wantCounts(t, counts, map[string]int{
		"": 2000, "height": 100, "rise": 15, "rest": 15, "square": 1000, "product": 100, "sum": 200,
		"height, but the sum is valid": 20, "rise, but the sum is valid": 5, "square, but the sum is valid": 100, "product, but the sum is valid": 50, "sum, but the sum is valid": 100,
	})
}

func TestSquaresBeyondLimit(t *testing.T) {
	for _, v := range squareNets() {
		s := solvedOf(v)
		if got, fine := sumOfRests(t, s); fine || s.lacks() != "square" {
			t.Errorf("AdjustSum(%d, %v) is %v, %v, but a square is no valid quotient", v.n, v.runs, got, fine)
		}
		for k := range v.runs {
			if _, fine := restOf(t, s, k); !fine || !isValid(s.product(k)) || !isValid(s.sum(k+1)) {
				t.Errorf("AdjustSum(%d, %v) lacks more than a square", v.n, v.runs)
			}
		}
	}
}

// TestHeightsBeyondLimit checks runs of nets without AdjustHeights: AdjustRun and AdjustRest fail for all of them, also if their own quotients are valid.
func TestHeightsBeyondLimit(t *testing.T) {
	counts := map[string]int{}
	for _, s := range solvedNets() {
		if _, fine := heightsOf(t, s); fine {
			continue
		}
		for k := range s.runs {
			riseOf(t, s, k)
			restOf(t, s, k)
			if isValid(s.rise(k)) {
				counts["valid rise"]++
			}
			if s.needed(k) {
				counts["in no loop"]++
			}
		}
		sumOfRests(t, s)
	}
	wantCounts(t, counts, map[string]int{"valid rise": 100, "in no loop": 20})
}

// TestAdjustPartedNets checks nets that are valid but not whole.
func TestAdjustPartedNets(t *testing.T) {
	nets := partedNets()
	for _, v := range nets {
		checkNoAdjustment(t, v, firstIndexes(len(v.runs)))
	}
	if len(nets) < 2000 {
		t.Errorf("only %d nets are not whole", len(nets))
	}
}

// checkNoAdjustment wants all but AdjustTry to fail.
func checkNoAdjustment(t *testing.T, v net, indexes []int) {
	t.Helper()
	name := v.runs[max(0, len(v.runs)-2):]
	if list, fine := impl.AdjustHeights(v.n, v.runs); len(list) != 0 || fine {
		t.Errorf("AdjustHeights is %v, %v for %d nodes and %d runs, %v at the end", list, fine, v.n, len(v.runs), name)
	}
	if sum, fine := impl.AdjustSum(v.n, v.runs); sum != (impl.Quo{}) || fine {
		t.Errorf("AdjustSum is %v, %v for %d nodes and %d runs, %v at the end", sum, fine, v.n, len(v.runs), name)
	}
	for _, k := range indexes {
		checkNoAdjustRun(t, v, k)
	}
}

func checkNoAdjustRun(t *testing.T, v net, k int) {
	t.Helper()
	name := v.runs[max(0, len(v.runs)-2):]
	if rise, fine := impl.AdjustRun(v.n, v.runs, k); rise != (impl.Quo{}) || fine {
		t.Errorf("AdjustRun of the run %d is %v, %v for %d nodes and %d runs, %v at the end", k, rise, fine, v.n, len(v.runs), name)
	}
	if rest, fine := impl.AdjustRest(v.n, v.runs, k); rest != (impl.Quo{}) || fine {
		t.Errorf("AdjustRest of the run %d is %v, %v for %d nodes and %d runs, %v at the end", k, rest, fine, v.n, len(v.runs), name)
	}
}

// balances returns for each node the weights times the rests of all runs to it, minus those of all runs from it.
func balances(v net, rests []*big.Rat) []*big.Rat {
	sums := zeroRats(v.n)
	for k, r := range v.runs {
		part := new(big.Rat).Mul(rests[k], wholeRat(r.Weight))
		sums[r.To].Add(sums[r.To], part)
		sums[r.From].Sub(sums[r.From], part)
	}
	return sums
}

func TestPromise51(t *testing.T) {
	counts := map[string]int{}
	for _, s := range solvedNets() {
		list, fine := heightsOf(t, s)
		if !fine {
			continue
		}
		if list[0].Sign() != 0 {
			t.Errorf("AdjustHeights(%d, %v) is %v: not 0 at the node 0", s.n, s.runs, list)
		}
		rests, fine := restsOf(t, s)
		if !fine {
			continue
		}
		if sums := balances(s.net, rests); !sameRats(sums, zeroRats(s.n)) {
			t.Errorf("the rests of %d, %v are %v, and leave %v", s.n, s.runs, rests, sums)
		}
		if sameRats(rests, zeroRats(len(rests))) {
			counts["without rests"]++
		} else {
			counts["with rests"]++
		}
	}
	wantCounts(t, counts, map[string]int{"without rests": 200, "with rests": 2000})
}

// closedNets have the rises of heights.
func closedNets() []net {
	var list []net
	for _, v := range append(hangingNets(), allMatrixNets()...) {
		if wantedWhole(v.n, v.runs) {
			for _, heights := range heightsFor(v.n)[:3] {
				list = append(list, net{v.n, fittingRuns(v.runs, heights)})
			}
		}
	}
	return list
}

func TestPromise52(t *testing.T) {
	nets := closedNets()
	for _, v := range nets {
		if !impl.LoopCloses(v.n, v.runs) {
			t.Fatalf("LoopCloses(%d, %v) is false", v.n, v.runs)
		}
		tree, _ := impl.TreeFirst(v.n, v.runs)
		heights, _ := impl.TreeHeights(v.n, v.runs, tree)
		if got, fine := impl.AdjustHeights(v.n, v.runs); !slices.Equal(got, wholeQuos(heights...)) || !fine {
			t.Errorf("AdjustHeights(%d, %v) is %v, %v, but TreeHeights %v", v.n, v.runs, got, fine, heights)
		}
		for k := range v.runs {
			if got, fine := impl.AdjustRest(v.n, v.runs, k); got != quo(0, 1) || !fine {
				t.Errorf("AdjustRest(%d, %v, %d) is %v, %v, but the net closes", v.n, v.runs, k, got, fine)
			}
		}
		if got, fine := impl.AdjustSum(v.n, v.runs); got != quo(0, 1) || !fine {
			t.Errorf("AdjustSum(%d, %v) is %v, %v, but the net closes", v.n, v.runs, got, fine)
		}
	}
	if len(nets) < 2000 {
		t.Errorf("only %d nets that close were checked", len(nets))
	}
}

// TestAddedRises checks the second part of promise 52.
func TestAddedRises(t *testing.T) {
	checks := 0
	for _, s := range solvedNets() {
		list, fine := heightsOf(t, s)
		if !fine {
			continue
		}
		for _, heights := range heightsFor(s.n) {
			runs := fittingRuns(s.runs, heights)
			for k := range runs {
				runs[k].Rise += s.runs[k].Rise
			}
			got, good := impl.AdjustHeights(s.n, runs)
			if !good {
				continue
			}
			checks++
			want := zeroRats(s.n)
			for node := range want {
				want[node].Add(list[node], wholeRat(heights[node]-heights[0]))
			}
			if !sameRats(rationals(got), want) {
				t.Errorf("AdjustHeights(%d, %v) is %v, but %v with the rises of the heights %v taken away", s.n, runs, got, list, heights)
			}
		}
	}
	if checks < 10000 {
		t.Errorf("only %d nets were raised", checks)
	}
}

// wantedTry multiplies out, for a valid net and valid heights.
func wantedTry(v net, heights []int) int {
	sum := 0
	for _, r := range v.runs {
		from, to := heights[r.From], heights[r.To]
		sum += r.Weight*(from*from+to*to+r.Rise*r.Rise) + 2*r.Weight*(from*r.Rise-from*to-to*r.Rise)
	}
	return sum
}

// triedHeights returns whole heights for a net: next to the adjusted ones, as much higher, and others.
func triedHeights(s solved) [][]int {
	var low []int
	for _, height := range s.heights {
		low = append(low, floorOf(height))
	}
	lists := append(heightsFor(s.n), low, raised(low, 1), raised(low, -4321), raised(low, 54321))
	for node := range low {
		lists = append(lists, raisedAt(low, node, 1), raisedAt(low, node, -1), raisedAt(raised(low, 77), node, 2))
	}
	return append(lists, slices.Concat(low[:1], raised(low[1:], 1)))
}

// asMuchHigher tells whether heights differ from the adjusted ones by the same number at all nodes.
func (s solved) asMuchHigher(heights []int) bool {
	for node, height := range s.heights {
		higher := new(big.Rat).Add(height, wholeRat(heights[0]))
		if higher.Cmp(wholeRat(heights[node])) != 0 {
			return false
		}
	}
	return true
}

func TestPromise53(t *testing.T) {
	counts := map[string]int{}
	for _, s := range solvedNets() {
		sum, fine := sumOfRests(t, s)
		for _, heights := range triedHeights(s) {
			got := impl.AdjustTry(s.n, s.runs, heights)
			if got != wantedTry(s.net, heights) {
				t.Fatalf("AdjustTry(%d, %v, %v) is %d, wanted %d", s.n, s.runs, heights, got, wantedTry(s.net, heights))
			}
			if !fine {
				continue
			}
			order, least := wholeRat(got).Cmp(sum), s.asMuchHigher(heights)
			if order < 0 || (order == 0) != least {
				t.Errorf("AdjustTry(%d, %v, %v) is %d, but AdjustSum %v", s.n, s.runs, heights, got, sum)
			}
			switch {
			case !least:
				counts["other heights"]++
			case sum.Sign() == 0:
				counts["adjusted heights without rests"]++
			default:
				counts["adjusted heights with rests"]++
			}
		}
	}
	wantCounts(t, counts, map[string]int{"other heights": 20000, "adjusted heights without rests": 500, "adjusted heights with rests": 1000})
}

func TestAdjustTryCases(t *testing.T) {
	most := impl.RiseMax
	high := heightMax
	triangle := []impl.Run{run(0, 1, 5, 1), run(1, 2, 2, 1), run(0, 2, 10, 1)}
	cases := []struct {
		name    string
		n       int
		runs    []impl.Run
		heights []int
		want    int
	}{
		{"a triangle", 3, triangle, []int{0, 5, 7}, 9},
		{"a triangle", 3, triangle, []int{0, 6, 9}, 3},
		{"a triangle", 3, triangle, []int{100, 106, 109}, 3},
		{"a triangle", 3, triangle, []int{0, 0, 0}, 129},
		{"a triangle", 3, triangle, []int{0, -6, -9}, 11*11 + 5*5 + 19*19},
		{"too few heights", 3, triangle, []int{0, 6}, -1},
		{"too many heights", 3, triangle, []int{0, 6, 9, 0}, -1},
		{"no heights", 3, triangle, nil, -1},
		{"no heights", 3, triangle, []int{}, -1},
		{"a node alone", 4, triangle, []int{0, 6, 9, 77}, 3},
		{"a node alone at the limit", 4, triangle, []int{0, 6, 9, -high}, 3},
		{"a node alone beyond the limit", 4, triangle, []int{0, 6, 9, -high - 1}, -1},
		{"a node alone without a height", 4, triangle, []int{0, 6, 9}, -1},
		{"no runs", 2, nil, []int{5, 9}, 0},
		{"no runs at the limits", 6, nil, []int{high, -high, 0, 1, -1, high}, 0},
		{"no runs beyond the limit", 2, nil, []int{0, high + 1}, -1},
		{"no runs and too few heights", 6, nil, []int{0, 0, 0, 0, 0}, -1},
		{"a weight", 2, []impl.Run{run(0, 1, 5, 7)}, []int{10, 12}, 63},
		{"a run back", 2, []impl.Run{run(1, 0, 5, 7)}, []int{10, 12}, 343},
		{"the limits", 2, []impl.Run{run(0, 1, most, 1)}, []int{high, -high}, 2100000 * 2100000},
		{"the limits", 2, []impl.Run{run(1, 0, -most, 9)}, []int{high, -high}, 9 * 2100000 * 2100000},
		{"the limits", 2, []impl.Run{run(1, 0, most, 9)}, []int{high, -high}, 9 * 1900000 * 1900000},
		{"the greatest sum", 2, repeated(run(0, 1, -most, 9), 12), []int{-high, high}, 108 * 2100000 * 2100000},
		{"the least height", 2, []impl.Run{run(0, 1, 0, 1)}, []int{-high, -high}, 0},
		{"the greatest height", 2, []impl.Run{run(0, 1, 0, 1)}, []int{high, high}, 0},
		{"below the least height", 2, []impl.Run{run(0, 1, 0, 1)}, []int{-high - 1, -high - 1}, -1},
		{"beyond the greatest height", 2, []impl.Run{run(0, 1, 0, 1)}, []int{high + 1, high + 1}, -1},
		{"one beyond the greatest height", 2, []impl.Run{run(0, 1, 1, 1)}, []int{high, high + 1}, -1},
		{"two parts", 6, append(ringAt(0), ringAt(3)...), []int{1, 2, 4, 10, 11, 12}, 1 + 4 + 9 + 1 + 1 + 4},
		{"no net", 3, append(slices.Clone(triangle), run(0, 3, 1, 1)), []int{0, 6, 9}, -1},
		{"no net", 3, append(slices.Clone(triangle), run(0, 1, most+1, 1)), []int{0, 6, 9}, -1},
		{"no net", 3, append(slices.Clone(triangle), run(0, 1, 1, 10)), []int{0, 6, 9}, -1},
		{"no net", 1, nil, []int{0}, -1},
		{"no net", 7, nil, []int{0, 0, 0, 0, 0, 0, 0}, -1},
	}
	for _, c := range cases {
		if got := impl.AdjustTry(c.n, c.runs, c.heights); got != c.want {
			t.Errorf("%s: AdjustTry(%d, %v, %v) is %d, wanted %d", c.name, c.n, c.runs, c.heights, got, c.want)
		}
	}
}

// TestAdjustTryOfPartedNets checks nets that are valid but not whole.
func TestAdjustTryOfPartedNets(t *testing.T) {
	for _, v := range partedNets() {
		for _, heights := range heightsFor(v.n) {
			if got := impl.AdjustTry(v.n, v.runs, heights); got != wantedTry(v, heights) {
				t.Fatalf("AdjustTry(%d, %v, %v) is %d, wanted %d", v.n, v.runs, heights, got, wantedTry(v, heights))
			}
		}
	}
}

func TestAdjustTryOfInvalidHeights(t *testing.T) {
	for _, v := range slices.Concat(hangingNets(), balancedNets()[:20], treeNets()) {
		for _, size := range []int{0, 1, 2, 3, 4, 5, 6, 7, 8, 12, 100000} {
			if got := impl.AdjustTry(v.n, v.runs, make([]int, size)); (got == -1) != (size != v.n) {
				t.Errorf("AdjustTry(%d, %v, ..) is %d for %d heights", v.n, v.runs, got, size)
			}
		}
		for node := range v.n {
			for _, bad := range append([]int{heightMax + 1, -heightMax - 1}, badNumbers...) {
				if heights := raisedAt(make([]int, v.n), node, bad); impl.AdjustTry(v.n, v.runs, heights) != -1 {
					t.Errorf("AdjustTry(%d, %v, %v) is not -1", v.n, v.runs, heights)
				}
			}
			for _, edge := range []int{heightMax, -heightMax} {
				if heights := raisedAt(make([]int, v.n), node, edge); impl.AdjustTry(v.n, v.runs, heights) != wantedTry(v, heights) {
					t.Errorf("AdjustTry(%d, %v, %v) is not %d", v.n, v.runs, heights, wantedTry(v, heights))
				}
			}
		}
	}
}

// checkTurned wants the adjusted rise of a turned run to be the opposite.
func checkTurned(t *testing.T, s solved, k int, rise *big.Rat) {
	t.Helper()
	back, _ := impl.NetBack(s.n, s.runs, k)
	got, fine := impl.AdjustRun(s.n, back, k)
	if !fine || rational(opposite(got)).Cmp(rise) != 0 {
		t.Errorf("AdjustRun(%d, %v, %d) is %v, but of the turned run %v, %v", s.n, s.runs, k, rise, got, fine)
	}
}

// checkAdjustedLoop wants the adjusted rises of the loop of a run to be 0 together, and reports whether they are quotients.
func checkAdjustedLoop(t *testing.T, s solved, k int) bool {
	t.Helper()
	loop, fine := impl.LoopOf(s.n, s.runs, k)
	if !fine {
		return false
	}
	sum := new(big.Rat)
	for _, number := range loop {
		rise, good := riseOf(t, s, indexOf(number))
		if !good {
			return false
		}
		sum.Add(sum, rise.Mul(rise, wholeRat(number/(indexOf(number)+1))))
	}
	if sum.Sign() != 0 {
		t.Errorf("the adjusted rises of the loop %v of %d, %v are %v together", loop, s.n, s.runs, sum)
	}
	return true
}

func TestPromise54(t *testing.T) {
	runs, loops := 0, 0
	for _, s := range solvedNets() {
		for k := range s.runs {
			rise, fine := riseOf(t, s, k)
			if !fine {
				continue
			}
			runs++
			checkTurned(t, s, k, rise)
			if checkAdjustedLoop(t, s, k) {
				loops++
			}
		}
	}
	if runs < 10000 || loops < 10000 {
		t.Errorf("only %d runs and %d loops were checked", runs, loops)
	}
}

func TestPromise55(t *testing.T) {
	counts := map[string]int{}
	for _, s := range solvedNets() {
		needed := 0
		for k, r := range s.runs {
			rest, fine := restOf(t, s, k)
			if !fine {
				continue
			}
			counts["rests"]++
			rise, good := riseOf(t, s, k)
			if !good || rise.Sub(rise, wholeRat(r.Rise)).Cmp(rest) != 0 {
				t.Errorf("AdjustRest(%d, %v, %d) is %v, and AdjustRun %v", s.n, s.runs, k, rest, rise)
			}
			if s.needed(k) {
				needed++
				if rest.Sign() != 0 {
					t.Errorf("AdjustRest(%d, %v, %d) is %v, but the run is in no loop", s.n, s.runs, k, rest)
				}
			}
		}
		counts["in no loop"] += needed
		if needed > 0 && needed < len(s.runs) {
			counts["in no loop, beside others"] += needed
		}
	}
	wantCounts(t, counts, map[string]int{"rests": 10000, "in no loop": 1000, "in no loop, beside others": 1000})
}

// extendedNets have a last run that has no rest, but is in a loop.
func extendedNets() []net {
	var list []net
	for _, s := range solvedNets() {
		for _, ends := range endsOf(s.n) {
			rise := new(big.Rat).Sub(s.heights[ends[1]], s.heights[ends[0]])
			if rise.IsInt() && within(int(rise.Num().Int64()), impl.RiseMax) && len(s.runs) < impl.RunsMax {
				list = append(list, net{s.n, append(slices.Clone(s.runs), run(ends[0], ends[1], int(rise.Num().Int64()), 1+len(list)%impl.WeightMax))})
			}
		}
	}
	return list
}

func within(number int, most int) bool {
	return between(-most, number, most)
}

func sameHeights(t *testing.T, v net, other net) bool {
	t.Helper()
	list, fine := impl.AdjustHeights(v.n, v.runs)
	others, good := impl.AdjustHeights(other.n, other.runs)
	if fine && good && !slices.Equal(list, others) {
		t.Errorf("AdjustHeights(%d, %v) is %v, but %v for %v", v.n, v.runs, list, others, other.runs)
	}
	return fine && good
}

func TestPromise56(t *testing.T) {
	counts := map[string]int{}
	for _, s := range solvedNets() {
		twice := net{s.n, withWeights(s.runs, func(weight int) int { return 2 * weight })}
		if impl.NetValid(twice.n, twice.runs) && sameHeights(t, s.net, twice) {
			counts["doubled"]++
		}
	}
	for _, v := range extendedNets() {
		last := len(v.runs) - 1
		rest, fine := impl.AdjustRest(v.n, v.runs, last)
		if !fine {
			continue
		}
		if rest != quo(0, 1) {
			t.Fatalf("AdjustRest(%d, %v, %d) is %v", v.n, v.runs, last, rest)
		}
		if sameHeights(t, v, wantedWithout(v, last)) {
			counts["without the last run"]++
		}
	}
	wantCounts(t, counts, map[string]int{"doubled": 1000, "without the last run": 2000})
}

func checkPromise57(t *testing.T, runs []impl.Run, want int) {
	t.Helper()
	for k := range runs {
		if got, fine := impl.AdjustRun(2, runs, k); got != quo(want, 1) || !fine {
			t.Errorf("AdjustRun(2, %v, %d) is %v, %v, wanted %d", runs, k, got, fine, want)
		}
	}
	for k, r := range runs {
		if got, fine := impl.AdjustRest(2, runs, k); got != quo(want-r.Rise, 1) || !fine {
			t.Errorf("AdjustRest(2, %v, %d) is %v, %v", runs, k, got, fine)
		}
	}
}

func TestPromise57(t *testing.T) {
	checks := 0
	for _, rise := range []int{-impl.RiseMax, 1 - impl.RiseMax, -7, -6, -3, -1, 0, 1, 5, 4321, impl.RiseMax - 7, impl.RiseMax - 6} {
		for weight := 1; weight <= impl.WeightMax; weight++ {
			for _, ends := range endsOf(2) {
				low, high := run(ends[0], ends[1], rise, weight), run(ends[0], ends[1], rise+6, weight)
				checkPromise57(t, []impl.Run{low, high}, rise+3)
				checkPromise57(t, []impl.Run{high, low}, rise+3)
			}
		}
	}
	for _, s := range solvedNets() {
		for k, r := range s.runs {
			if _, fine := riseOf(t, s, k); !fine || r.Rise+6 > impl.RiseMax {
				continue
			}
			checks++
			checkPromise57(t, []impl.Run{run(0, 1, r.Rise, r.Weight), run(0, 1, r.Rise+6, r.Weight)}, r.Rise+3)
		}
	}
	if checks < 10000 {
		t.Errorf("only %d runs were checked", checks)
	}
}

// weightedMeans returns TreeWeight times the heights of a net, as the sum over all trees.
func weightedMeans(t *testing.T, v net) []*big.Rat {
	t.Helper()
	sums := make([]int, v.n)
	for _, tree := range wantedTrees(v) {
		product := 1
		for _, r := range runsAt(v.runs, tree) {
			product *= r.Weight
		}
		heights, fine := impl.TreeHeights(v.n, v.runs, tree)
		if !fine {
			t.Fatalf("TreeHeights(%d, %v, %v) fails", v.n, v.runs, tree)
		}
		for node, height := range heights {
			sums[node] += product * height
		}
	}
	var list []*big.Rat
	for _, sum := range sums {
		list = append(list, wholeRat(sum))
	}
	return list
}

func TestPromise58(t *testing.T) {
	checks, broken := 0, 0
	for _, s := range solvedNets() {
		list, fine := heightsOf(t, s)
		if !fine || len(s.runs) > 9 {
			continue
		}
		checks++
		weight := wholeRat(impl.TreeWeight(s.n, s.runs))
		times := zeroRats(s.n)
		for node, height := range list {
			times[node].Mul(weight, height)
			if !height.IsInt() {
				broken++
			}
		}
		if want := weightedMeans(t, s.net); !sameRats(times, want) {
			t.Errorf("AdjustHeights(%d, %v) is %v, and %v times TreeWeight, but %v over all trees", s.n, s.runs, list, times, want)
		}
	}
	if checks < 2000 || broken < 2000 {
		t.Errorf("only %d nets and %d broken heights were checked", checks, broken)
	}
}

func TestAdjustRunIndexes(t *testing.T) {
	for _, v := range slices.Concat(hangingNets(), linkNets()[:4], balancedNets(), limitNets(), treeNets(), mixedNets()) {
		size := len(v.runs)
		for _, k := range append([]int{-1, -2, -size, -size - 1, size, size + 1, 2 * size, impl.RunsMax, impl.RunsMax + 1, 1000}, badNumbers...) {
			if !between(0, k, size-1) {
				checkNoAdjustRun(t, v, k)
			}
		}
	}
}

func TestAdjustInvalidNets(t *testing.T) {
	for _, v := range slices.Concat(loopedInvalidNets(), linkedInvalidNets(), invalidNets()) {
		checkNoAdjustment(t, v, append(firstIndexes(min(len(v.runs), 15)), -1, len(v.runs)-1, len(v.runs), math.MinInt, math.MaxInt))
		for _, size := range []int{0, 1, 2, 6, 7, min(max(v.n, 0), 100)} {
			if got := impl.AdjustTry(v.n, v.runs, make([]int, size)); got != -1 {
				t.Errorf("AdjustTry is %d for %d heights, %d nodes and %d runs, %v at the end", got, size, v.n, len(v.runs), v.runs[max(0, len(v.runs)-2):])
			}
		}
	}
}

// TestAdjustArgumentsStay gives lists with room behind their ends, which must stay as well.
func TestAdjustArgumentsStay(t *testing.T) {
	for _, s := range solvedNets() {
		room, roomOfHeights := append(slices.Clone(s.runs), run(1, 0, 77, 3), run(8, 9, 77, 3)), append(heightsFor(s.n)[1], 77, 78)
		roomAhead, heightsAhead := slices.Clone(room), slices.Clone(roomOfHeights)
		runs := room[:len(s.runs)]
		list, _ := impl.AdjustHeights(s.n, runs)
		spoil(list, quo(9, 0))
		impl.AdjustSum(s.n, runs)
		impl.AdjustTry(s.n, runs, roomOfHeights[:s.n])
		impl.AdjustRun(s.n, runs, len(runs)-1)
		impl.AdjustRest(s.n, runs, len(runs)-1)
		if !slices.Equal(room, roomAhead) || !slices.Equal(roomOfHeights, heightsAhead) {
			t.Fatalf("an argument is changed: %v, %v", room, roomOfHeights)
		}
	}
}

func TestAdjustResultsAreNew(t *testing.T) {
	for _, s := range solvedNets() {
		checkNewList(t, "AdjustHeights", quo(9, 0), func() []impl.Quo { list, _ := impl.AdjustHeights(s.n, s.runs); return list })
	}
}
