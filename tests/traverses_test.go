package tests

import (
	"math"
	"math/rand/v2"
	"slices"
	"sync"
	"testing"

	"loop.example/levellingnet/impl"
)

const shareMax = impl.ShareMax

// none stands for a step of no length.
var none = impl.Point{}

func isStep(s impl.Point) bool {
	return within(s.X, stepMax) && within(s.Y, stepMax)
}

func isTraverse(list []impl.Point) bool {
	return between(1, len(list), cornersMax) && !slices.ContainsFunc(list, func(s impl.Point) bool { return !isStep(s) })
}

func allX(list []impl.Point) []int {
	var numbers []int
	for _, p := range list {
		numbers = append(numbers, p.X)
	}
	return numbers
}

func allY(list []impl.Point) []int {
	var numbers []int
	for _, p := range list {
		numbers = append(numbers, p.Y)
	}
	return numbers
}

func wantedGap(list []impl.Point) impl.Point {
	return at(sumOf(allX(list)), sumOf(allY(list)))
}

func wantedLengths(list []impl.Point) []int {
	var lengths []int
	for _, s := range list {
		lengths = append(lengths, max(s.X, -s.X)+max(s.Y, -s.Y))
	}
	return lengths
}

// wantedPoints returns the points of a traverse, each one from the first point on. They may be no valid ones.
func wantedPoints(from impl.Point, list []impl.Point) []impl.Point {
	points := []impl.Point{from}
	for i := range list {
		gap := wantedGap(list[:i+1])
		points = append(points, at(from.X+gap.X, from.Y+gap.Y))
	}
	return points
}

// wantedClosed returns the closed traverse of a valid one. The steps of a traverse that has one are never too great for the ranges of ShareRises.
func wantedClosed(list []impl.Point) ([]impl.Point, bool) {
	lengths := wantedLengths(list)
	if allZero(lengths) || slices.Max(lengths) > shareMax {
		return nil, false
	}
	xs, ys := wantedRises(lengths, allX(list)), wantedRises(lengths, allY(list))
	closed := make([]impl.Point, len(list))
	for i := range closed {
		closed[i] = at(xs[i], ys[i])
	}
	return closed, isTraverse(closed)
}

func wantedBackSteps(list []impl.Point) []impl.Point {
	back := eachPoint(list, opposed)
	slices.Reverse(back)
	return back
}

// stepsBetween returns the steps from each point to the next one.
func stepsBetween(points []impl.Point) []impl.Point {
	var list []impl.Point
	for i := range len(points) - 1 {
		list = append(list, difference(points[i], points[i+1]))
	}
	return list
}

func checkTravelValid(t *testing.T, list []impl.Point, want bool) {
	t.Helper()
	if got := impl.TravelValid(list); got != want {
		t.Fatalf("TravelValid of %d steps, %v ahead, is %v", len(list), list[:min(len(list), 13)], got)
	}
}

// travelled returns the points of a valid traverse, which must be what the test computes, or none.
func travelled(t *testing.T, from impl.Point, list []impl.Point) ([]impl.Point, bool) {
	t.Helper()
	want, fine := wantedPoints(from, list), true
	end := want[len(list)]
	if !pointsInRange(want) {
		want, end, fine = nil, impl.Point{}, false
	}
	got, ok := impl.TravelPoints(from, list)
	if !slices.Equal(got, want) || ok != fine {
		t.Fatalf("TravelPoints(%v, %v) is %v, %v, wanted %v, %v", from, list, got, ok, want, fine)
	}
	if last, ok := impl.TravelEnd(from, list); last != end || ok != fine {
		t.Fatalf("TravelEnd(%v, %v) is %v, %v, wanted %v, %v", from, list, last, ok, end, fine)
	}
	return got, fine
}

func gapOf(t *testing.T, list []impl.Point) impl.Point {
	t.Helper()
	gap, fine := impl.TravelGap(list)
	if want := wantedGap(list); gap != want || !fine {
		t.Fatalf("TravelGap(%v) is %v, %v, wanted %v", list, gap, fine, want)
	}
	return gap
}

func lengthOf(t *testing.T, list []impl.Point) int {
	t.Helper()
	length := impl.TravelLength(list)
	if want := sumOf(wantedLengths(list)); length != want {
		t.Fatalf("TravelLength(%v) is %d, wanted %d", list, length, want)
	}
	return length
}

func closedOf(t *testing.T, list []impl.Point) ([]impl.Point, bool) {
	t.Helper()
	closed, fine := impl.TravelClose(list)
	if want, ok := wantedClosed(list); !slices.Equal(closed, want) || fine != ok {
		t.Fatalf("TravelClose(%v) is %v, %v, wanted %v, %v", list, closed, fine, want, ok)
	}
	return closed, fine
}

// travelCase is a traverse with the points to which it leads from a point, none if it leads to one that is none, and with the closed traverse, if there is one.
type travelCase struct {
	name   string
	from   impl.Point
	list   []impl.Point
	points []impl.Point
	gap    impl.Point
	length int
	closed []impl.Point
}

// travelCases are worked out by hand.
var travelCases = []travelCase{
	{
		"triangle that does not close", at(1, 1), []impl.Point{at(10, 0), at(0, 10), at(-8, -9)},
		[]impl.Point{at(1, 1), at(11, 1), at(11, 11), at(3, 2)}, at(2, 1), 37, []impl.Point{at(10, 0), at(-1, 10), at(-9, -10)},
	},
	{"one step", at(-2, 5), []impl.Point{at(3, -4)}, []impl.Point{at(-2, 5), at(1, 1)}, at(3, -4), 7, []impl.Point{none}},
	{"one step of no length", at(-2, 5), []impl.Point{none}, []impl.Point{at(-2, 5), at(-2, 5)}, none, 0, nil},
	{"three steps of no length", at(7, 7), []impl.Point{none, none, none}, []impl.Point{at(7, 7), at(7, 7), at(7, 7), at(7, 7)}, none, 0, nil},
	{
		"square that is closed", at(0, 0), []impl.Point{at(5, 0), at(0, 5), at(-5, 0), at(0, -5)},
		[]impl.Point{at(0, 0), at(5, 0), at(5, 5), at(0, 5), at(0, 0)}, none, 20, []impl.Point{at(5, 0), at(0, 5), at(-5, 0), at(0, -5)},
	},
	{
		"there and back", at(9, 9), []impl.Point{at(-3, 2), at(3, -2)},
		[]impl.Point{at(9, 9), at(6, 11), at(9, 9)}, none, 10, []impl.Point{at(-3, 2), at(3, -2)},
	},
	{
		"steps of no length first, last and among others", at(0, 0), []impl.Point{none, at(4, 0), none, at(0, 3), none},
		[]impl.Point{at(0, 0), at(0, 0), at(4, 0), at(4, 0), at(4, 3), at(4, 3)}, at(4, 3), 7, []impl.Point{none, at(2, -2), none, at(-2, 2), none},
	},
	{
		"short step with the share 0 of the gap that it makes", at(0, 0), []impl.Point{at(100, 0), at(1, 0), at(-100, 0)},
		[]impl.Point{at(0, 0), at(100, 0), at(101, 0), at(1, 0)}, at(1, 0), 201, []impl.Point{at(100, 0), at(1, 0), at(-101, 0)},
	},
	{
		"equal lengths, of which the last one takes the gap", at(-1, -1), []impl.Point{at(2, 0), at(0, 2), at(-2, 0), at(0, -2), at(1, 1)},
		[]impl.Point{at(-1, -1), at(1, -1), at(1, 1), at(-1, 1), at(-1, -1), at(0, 0)}, at(1, 1), 10, []impl.Point{at(2, 0), at(0, 2), at(-2, 0), at(0, -2), none},
	},
	{
		"equal lengths, of which the first one takes the gap", at(1, 1), []impl.Point{at(-2, 0), at(0, -2), at(2, 0), at(0, 2), at(-1, -1)},
		[]impl.Point{at(1, 1), at(-1, 1), at(-1, -1), at(1, -1), at(1, 1), at(0, 0)}, at(-1, -1), 10, []impl.Point{at(-1, 1), at(0, -2), at(2, 0), at(0, 2), at(-1, -1)},
	},
	{
		"shares of both signs", at(0, 0), []impl.Point{at(3, 0), at(0, -3), at(1, 0), none, at(-2, -2)},
		[]impl.Point{at(0, 0), at(3, 0), at(3, -3), at(4, -3), at(4, -3), at(2, -5)}, at(2, -5), 11, []impl.Point{at(3, 1), at(-1, -2), at(1, 1), none, at(-3, 0)},
	},
	{
		"straight on", at(0, 0), []impl.Point{at(-1, 0), at(-2, 0), at(-4, 0)},
		[]impl.Point{at(0, 0), at(-1, 0), at(-3, 0), at(-7, 0)}, at(-7, 0), 7, []impl.Point{none, none, none},
	},
	{
		"greatest lengths", at(-placeMax, 0), []impl.Point{at(shareMax, 0), at(0, shareMax)},
		[]impl.Point{at(-placeMax, 0), at(0, 0), at(0, placeMax)}, at(shareMax, shareMax), 2 * shareMax, []impl.Point{at(5000, -5000), at(-5000, 5000)},
	},
	{
		"greatest length of both coordinates together", at(0, 0), []impl.Point{at(6000, -4000)},
		[]impl.Point{at(0, 0), at(6000, -4000)}, at(6000, -4000), shareMax, []impl.Point{none},
	},
	{"length too great in one coordinate", at(-1, 0), []impl.Point{at(shareMax+1, 0)}, []impl.Point{at(-1, 0), at(placeMax, 0)}, at(shareMax+1, 0), shareMax + 1, nil},
	{"length too great in both coordinates together", at(0, 0), []impl.Point{at(5000, 5001)}, []impl.Point{at(0, 0), at(5000, 5001)}, at(5000, 5001), shareMax + 1, nil},
	{"length too great of a step of two", at(0, 0), []impl.Point{at(-1, 0), at(1, shareMax)}, []impl.Point{at(0, 0), at(-1, 0), at(0, placeMax)}, at(0, shareMax), shareMax + 2, nil},
	{
		"closed with lengths too great", at(-placeMax, -placeMax), []impl.Point{at(stepMax, 0), at(0, stepMax), at(-stepMax, -stepMax)},
		[]impl.Point{at(-placeMax, -placeMax), at(placeMax, -placeMax), at(placeMax, placeMax), at(-placeMax, -placeMax)}, none, 4 * stepMax, nil,
	},
	{"greatest step", at(placeMax, placeMax), []impl.Point{at(-stepMax, -stepMax)}, []impl.Point{at(placeMax, placeMax), at(-placeMax, -placeMax)}, at(-stepMax, -stepMax), 2 * stepMax, nil},
	{"gap greater than a step", at(0, 0), []impl.Point{at(stepMax, stepMax), at(1, 1)}, nil, at(stepMax+1, stepMax+1), 2*stepMax + 2, nil},
	{"gap greater than a step in X only", at(0, 0), []impl.Point{at(shareMax, 0), at(shareMax, 0), at(1, -1)}, nil, at(stepMax+1, -1), stepMax + 2, []impl.Point{at(1, 1), none, at(-1, -1)}},
	{"gap greater than a step in Y only", at(0, placeMax), []impl.Point{at(0, -stepMax), at(7, -stepMax)}, nil, at(7, -2*stepMax), 2*stepMax + 7, nil},
	{"greatest gap", at(-placeMax, -placeMax), slices.Repeat([]impl.Point{at(stepMax, stepMax)}, cornersMax), nil, at(cornersMax*stepMax, cornersMax*stepMax), 2 * cornersMax * stepMax, nil},
	{"greatest gap that is closed", at(placeMax, 0), slices.Repeat([]impl.Point{at(-shareMax, 0)}, cornersMax), nil, at(-cornersMax*shareMax, 0), cornersMax * shareMax, make([]impl.Point, cornersMax)},
	{"leaves the points at once and comes back", at(placeMax, 0), []impl.Point{at(1, 0), at(-1, 0)}, nil, none, 2, []impl.Point{at(1, 0), at(-1, 0)}},
	{"leaves the points on its way and comes back", at(0, -placeMax), []impl.Point{at(0, 1), at(0, -2), at(0, 1)}, nil, none, 4, []impl.Point{at(0, 1), at(0, -2), at(0, 1)}},
	{"leaves the points with its last step", at(-placeMax+1, 3), []impl.Point{at(-1, 0), at(-1, 0)}, nil, at(-2, 0), 2, []impl.Point{none, none}},
	{
		"twelve steps", at(-6, 0), slices.Repeat([]impl.Point{at(1, 0), at(0, 1)}, cornersMax/2),
		[]impl.Point{at(-6, 0), at(-5, 0), at(-5, 1), at(-4, 1), at(-4, 2), at(-3, 2), at(-3, 3), at(-2, 3), at(-2, 4), at(-1, 4), at(-1, 5), at(0, 5), at(0, 6)},
		at(6, 6), 12, slices.Concat(slices.Repeat([]impl.Point{at(1, 0), at(0, 1)}, 3), slices.Repeat([]impl.Point{at(0, -1), at(-1, 0)}, 3)),
	},
}

func TestTravelCases(t *testing.T) {
	for _, c := range travelCases {
		checkTravelValid(t, c.list, true)
		end := impl.Point{}
		if len(c.points) > 0 {
			end = c.points[len(c.points)-1]
		}
		if points, fine := impl.TravelPoints(c.from, c.list); !slices.Equal(points, c.points) || fine != (c.points != nil) {
			t.Errorf("TravelPoints of %s is %v, %v", c.name, points, fine)
		}
		if got, fine := impl.TravelEnd(c.from, c.list); got != end || fine != (c.points != nil) {
			t.Errorf("TravelEnd of %s is %v, %v", c.name, got, fine)
		}
		if gap, fine := impl.TravelGap(c.list); gap != c.gap || !fine {
			t.Errorf("TravelGap of %s is %v, %v", c.name, gap, fine)
		}
		if length := impl.TravelLength(c.list); length != c.length {
			t.Errorf("TravelLength of %s is %d", c.name, length)
		}
		if closed, fine := impl.TravelClose(c.list); !slices.Equal(closed, c.closed) || fine != (c.closed != nil) {
			t.Errorf("TravelClose of %s is %v, %v", c.name, closed, fine)
		}
	}
}

// smallTraverses are all of up to 4 of the least steps.
var smallTraverses = sync.OnceValue(func() [][]impl.Point {
	all, longest := [][]impl.Point{}, [][]impl.Point{nil}
	for range 4 {
		var longer [][]impl.Point
		for _, list := range longest {
			for _, s := range pointsOf([]int{-1, 0, 1}) {
				longer = append(longer, append(slices.Clone(list), s))
			}
		}
		all, longest = append(all, longer...), longer
	}
	return all
})

// someStep returns a step of a square, often at its limits or along an axis.
func someStep(source *rand.Rand, most int) impl.Point {
	coordinate := func() int {
		switch source.IntN(8) {
		case 0:
			return most
		case 1:
			return -most
		case 2:
			return 0
		}
		return source.IntN(2*most+1) - most
	}
	return at(coordinate(), coordinate())
}

// stepOfLength returns a step with this sum of the absolute values of both coordinates.
func stepOfLength(source *rand.Rand, length int) impl.Point {
	x := source.IntN(length + 1)
	return at(x*(2*source.IntN(2)-1), (length-x)*(2*source.IntN(2)-1))
}

// changedSteps makes a change to some of the steps.
func changedSteps(source *rand.Rand, list []impl.Point, change int) []impl.Point {
	last, i := len(list)-1, source.IntN(len(list))
	switch change {
	case 1:
		list[0], list[last] = none, none
	case 2:
		for k := range list {
			if source.IntN(3) == 0 {
				list[k] = none
			}
		}
	case 3:
		if back := opposed(wantedGap(list[:last])); isStep(back) {
			list[last] = back
		}
	case 4:
		for k := range list {
			if source.IntN(2) == 0 {
				list[k] = list[i]
			} else if source.IntN(2) == 0 {
				list[k] = opposed(list[i])
			}
		}
	case 5:
		list[i] = stepOfLength(source, shareMax)
	case 6:
		list[i] = stepOfLength(source, shareMax+1)
	case 7:
		for k := range list {
			list[k] = stepOfLength(source, shareMax)
		}
	}
	return list
}

// mixedTraverses are of all numbers of steps, always the same ones.
var mixedTraverses = sync.OnceValue(func() [][]impl.Point {
	source := rand.New(rand.NewPCG(33, 81))
	var all [][]impl.Point
	for _, most := range []int{1, 2, 9, 150, 2000, 5000, shareMax, stepMax} {
		for size := 1; size <= cornersMax; size++ {
			for change := range 32 {
				list := make([]impl.Point, size)
				for i := range list {
					list[i] = someStep(source, most)
				}
				all = append(all, changedSteps(source, list, change%8))
			}
		}
	}
	return all
})

// polygonTraverses go round polygons, or along other lists of points, and back to the first one, or to a point next to it.
var polygonTraverses = sync.OnceValue(func() [][]impl.Point {
	source := rand.New(rand.NewPCG(33, 85))
	var all [][]impl.Point
	for k, list := range allPointLists() {
		if k%5 != 0 {
			continue
		}
		steps := stepsBetween(append(slices.Clone(list), list[0]))
		all = append(all, steps)
		near := slices.Clone(steps)
		i := source.IntN(len(near))
		near[i] = at(near[i].X+source.IntN(7)-3, near[i].Y+source.IntN(7)-3)
		if isStep(near[i]) {
			all = append(all, near)
		}
	}
	return all
})

// allTraverses are the traverses of the tests.
var allTraverses = sync.OnceValue(func() [][]impl.Point {
	all := slices.Concat(smallTraverses(), mixedTraverses(), polygonTraverses())
	for _, c := range travelCases {
		all = append(all, c.list)
	}
	return all
})

// fittingStart returns a point from which a traverse stays on points, and goes to the limits on some side, or any point if there is none.
func fittingStart(source *rand.Rand, list []impl.Point) impl.Point {
	low, high := bounds(wantedPoints(none, list))
	if high.X-low.X > stepMax || high.Y-low.Y > stepMax {
		return somePoint(source, placeMax)
	}
	starts := []impl.Point{
		at(-placeMax-low.X, -placeMax-low.Y), at(placeMax-high.X, placeMax-high.Y),
		at(-placeMax-low.X, placeMax-high.Y), at(placeMax-high.X, -placeMax-low.Y),
	}
	return starts[source.IntN(len(starts))]
}

// startsFor returns the point from which a traverse just stays on points on some side, those next to it, (0, 0) and any point.
func startsFor(source *rand.Rand, list []impl.Point) []impl.Point {
	start := fittingStart(source, list)
	starts := []impl.Point{start, none, somePoint(source, placeMax)}
	for _, step := range []impl.Point{at(1, 0), at(-1, 0), at(0, 1), at(0, -1)} {
		starts = append(starts, at(start.X+step.X, start.Y+step.Y))
	}
	return slices.DeleteFunc(starts, func(p impl.Point) bool { return !pointsInRange([]impl.Point{p}) })
}

// eachTravel calls with all traverses of the tests, each one from some points.
func eachTravel(call func(from impl.Point, list []impl.Point)) {
	source := rand.New(rand.NewPCG(33, 82))
	for _, list := range allTraverses() {
		for _, from := range startsFor(source, list) {
			call(from, list)
		}
	}
}

// wayKind tells where a traverse leaves the points.
func wayKind(from impl.Point, list []impl.Point) string {
	points := wantedPoints(from, list)
	isOut := func(p impl.Point) bool { return !pointsInRange([]impl.Point{p}) }
	first := slices.IndexFunc(points, isOut)
	switch {
	case first == -1:
		return "stays"
	case first == len(list):
		return "leaves at the end"
	case first == 1 && !isOut(points[len(list)]):
		return "leaves at once and comes back"
	case !isOut(points[len(list)]):
		return "leaves on its way and comes back"
	}
	return "leaves and stays away"
}

func TestTravelPoints(t *testing.T) {
	counts := map[string]int{}
	eachTravel(func(from impl.Point, list []impl.Point) {
		travelled(t, from, list)
		counts[wayKind(from, list)]++
		if len(list) == 1 {
			counts["one step"]++
		}
		if len(list) == cornersMax {
			counts["most steps"]++
		}
	})
	wantCounts(t, counts, map[string]int{
		"stays": 10000, "leaves at the end": 1000, "leaves at once and comes back": 1000, "leaves on its way and comes back": 1000,
		"leaves and stays away": 1000, "one step": 1000, "most steps": 1000,
	})
}

func gapKind(gap impl.Point) string {
	switch {
	case gap == none:
		return "no gap"
	case isStep(gap):
		return "step"
	case within(gap.X, stepMax):
		return "greater in Y"
	case within(gap.Y, stepMax):
		return "greater in X"
	}
	return "greater in both"
}

func TestTravelSums(t *testing.T) {
	counts := map[string]int{}
	for _, list := range allTraverses() {
		checkTravelValid(t, list, true)
		lengthOf(t, list)
		counts[gapKind(gapOf(t, list))]++
	}
	wantCounts(t, counts, map[string]int{"no gap": 500, "step": 3000, "greater in X": 100, "greater in Y": 100, "greater in both": 20})
}

// countChanges counts what a traverse was closed by.
func countChanges(counts map[string]int, list []impl.Point, closed []impl.Point) {
	gap := wantedGap(list)
	if gap == none {
		counts["closed already"]++
		return
	}
	changes := map[string]bool{}
	sum := sumOf(wantedLengths(list))
	for i, length := range wantedLengths(list) {
		change := difference(list[i], closed[i])
		changes["step of no length stays"] = changes["step of no length stays"] || length == 0
		changes["share 0 of a length"] = changes["share 0 of a length"] || length > 0 && gap.X != 0 && change.X == 0
		changes["share left over in X"] = changes["share left over in X"] || gap.X*length%sum != 0
		changes["share left over in Y"] = changes["share left over in Y"] || gap.Y*length%sum != 0
		changes["greatest length"] = changes["greatest length"] || length == shareMax
	}
	for change, fine := range changes {
		if fine {
			counts[change]++
		}
	}
	if !isStep(gap) {
		counts["gap greater than a step"]++
	}
}

func TestTravelClose(t *testing.T) {
	counts := map[string]int{}
	for _, list := range allTraverses() {
		closed, fine := closedOf(t, list)
		lengths := wantedLengths(list)
		switch {
		case fine:
			counts["closed"]++
			countChanges(counts, list, closed)
		case allZero(lengths):
			counts["no length"]++
		case slices.Max(lengths) == shareMax+1:
			counts["length greater by 1"]++
		default:
			counts["length too great"]++
		}
	}
	wantCounts(t, counts, map[string]int{
		"closed": 5000, "closed already": 500, "no length": 20, "length greater by 1": 100, "length too great": 200, "step of no length stays": 1000,
		"share 0 of a length": 1000, "share left over in X": 1000, "share left over in Y": 1000, "greatest length": 200, "gap greater than a step": 20,
	})
}

// TestTravelCloseIsTraverse closes those whose steps come closest to the greatest one: no share is greater than its length, and a step has at most ShareMax as its length.
func TestTravelCloseIsTraverse(t *testing.T) {
	greatest := 0
	for size := 2; size <= cornersMax; size++ {
		for _, step := range []impl.Point{at(shareMax, 0), at(0, shareMax), at(5000, -5000), at(shareMax-1, 1)} {
			for i := range size {
				list := slices.Repeat([]impl.Point{opposed(step)}, size)
				list[i] = step
				closed, fine := closedOf(t, list)
				if !fine || !impl.TravelValid(closed) {
					t.Fatalf("TravelClose(%v) is %v, %v", list, closed, fine)
				}
				greatest = max(greatest, slices.Max(wantedLengths(closed)))
			}
		}
	}
	if greatest != 18334 {
		t.Errorf("the greatest length of a step of a closed traverse is %d", greatest)
	}
}

func TestPromise81(t *testing.T) {
	counts := map[string]int{}
	eachTravel(func(from impl.Point, list []impl.Point) {
		end, fine := impl.TravelEnd(from, list)
		for i := 1; i < len(list); i++ {
			middle, fineFirst := impl.TravelEnd(from, list[:i])
			if last, fineOther := impl.TravelEnd(middle, list[i:]); fine && (last != end || !fineFirst || !fineOther) || !fine && fineFirst && fineOther {
				t.Fatalf("TravelEnd(%v, %v) is %v, %v, but cut at %d it is %v, %v and %v, %v", from, list, end, fine, i, middle, fineFirst, last, fineOther)
			}
		}
		if !fine {
			counts["no end"]++
			return
		}
		counts["end"]++
		travelled(t, from, list)
		if moved, ok := impl.PointMove(from, gapOf(t, list)); moved != end || !ok {
			t.Fatalf("TravelEnd(%v, %v) is %v, but moved by the gap it is %v, %v", from, list, end, moved, ok)
		}
		back := wantedBackSteps(list)
		travelled(t, end, back)
		if start, ok := impl.TravelEnd(end, back); start != from || !ok {
			t.Fatalf("TravelEnd(%v, %v) is %v, but back it is %v, %v", from, list, end, start, ok)
		}
	})
	wantCounts(t, counts, map[string]int{"end": 10000, "no end": 10000})
}

func TestPromise82(t *testing.T) {
	ways := 0
	eachTravel(func(from impl.Point, list []impl.Point) {
		points, fine := travelled(t, from, list)
		end, good := impl.TravelEnd(from, list)
		if fine != good {
			t.Fatalf("TravelPoints(%v, %v) is %v, but TravelEnd %v", from, list, fine, good)
		}
		if !fine {
			return
		}
		ways++
		if len(points) != len(list)+1 || points[0] != from || points[len(list)] != end {
			t.Fatalf("TravelPoints(%v, %v) is %v, but TravelEnd %v", from, list, points, end)
		}
		for i, want := range list {
			if step, ok := impl.PointStep(points[i], points[i+1]); step != want || !ok {
				t.Fatalf("TravelPoints(%v, %v) is %v, with the step %v, %v at %d", from, list, points, step, ok, i)
			}
		}
	})
	if ways < 10000 {
		t.Errorf("only %d ways were checked", ways)
	}
}

func TestPromise83(t *testing.T) {
	straight := 0
	for _, list := range allTraverses() {
		gap, length := gapOf(t, list), lengthOf(t, list)
		far := max(gap.X, -gap.X) + max(gap.Y, -gap.Y)
		if length < 0 || far > length {
			t.Fatalf("TravelLength(%v) is %d, but TravelGap %v", list, length, gap)
		}
		if far == length {
			straight++
		}
		back := slices.Clone(list)
		slices.Reverse(back)
		if other := lengthOf(t, back); other != length {
			t.Fatalf("TravelLength(%v) is %d, but %d in the opposite order", list, length, other)
		}
	}
	if straight < 500 {
		t.Errorf("only %d traverses were checked whose gap is as great as their length", straight)
	}
}

// checkClosedAgain checks the closed traverse of one that is closed, and returns its kind.
func checkClosedAgain(t *testing.T, closed []impl.Point) string {
	t.Helper()
	again, fine := closedOf(t, closed)
	lengths := wantedLengths(closed)
	switch {
	case fine:
		if !slices.Equal(again, closed) {
			t.Fatalf("TravelClose(%v) is %v", closed, again)
		}
		return "closed again"
	case allZero(lengths):
		return "closed to steps of no length"
	case slices.Max(lengths) > shareMax:
		return "closed to lengths too great"
	}
	t.Fatalf("TravelClose(%v) fails", closed)
	return ""
}

func TestPromise84(t *testing.T) {
	counts := map[string]int{}
	for _, list := range allTraverses() {
		closed, fine := closedOf(t, list)
		if !fine {
			continue
		}
		if after := gapOf(t, closed); after != none {
			t.Fatalf("TravelClose(%v) is %v, with the gap %v", list, closed, after)
		}
		gap, lengths := gapOf(t, list), wantedLengths(list)
		var xs, ys []int
		for i, s := range list {
			xs, ys = append(xs, closed[i].X-s.X), append(ys, closed[i].Y-s.Y)
		}
		if !impl.ShareOk(lengths, -gap.X, xs) || !impl.ShareOk(lengths, -gap.Y, ys) {
			t.Fatalf("TravelClose(%v) is %v: the changes %v or %v are no shares of %v", list, closed, xs, ys, gap)
		}
		counts[checkClosedAgain(t, closed)]++
	}
	wantCounts(t, counts, map[string]int{"closed again": 5000, "closed to steps of no length": 100, "closed to lengths too great": 50})
}

// turnKinds tells how the steps of a closed traverse follow each other.
func turnKinds(list []impl.Point) []string {
	var kinds []string
	for i, s := range list {
		u := list[next(list, i)]
		ahead := s.X*u.X + s.Y*u.Y
		switch {
		case s == none:
			kinds = append(kinds, "step of no length")
		case crossed(s, u) == 0 && ahead > 0:
			kinds = append(kinds, "straight on")
		case crossed(s, u) == 0 && ahead < 0:
			kinds = append(kinds, "back")
		}
	}
	slices.Sort(kinds)
	return slices.Compact(kinds)
}

func TestPromise85(t *testing.T) {
	counts := map[string]int{}
	for _, list := range allTraverses() {
		closed, fine := closedOf(t, list)
		if !fine || len(closed) < 3 {
			continue
		}
		points, fine := travelled(t, none, closed)
		if !fine {
			counts["leaves the points"]++
			continue
		}
		sum := 0
		for i, s := range closed {
			sum += crossed(points[i], s)
		}
		area, fine := impl.PolyArea(points[:len(closed)])
		if area != sum || !fine {
			t.Fatalf("the closed traverse %v has the area %d, but PolyArea is %d, %v", closed, sum, area, fine)
		}
		if area != 0 {
			counts["area"]++
		}
		if len(list) == 3 {
			counts["three steps"]++
		}
		for _, kind := range turnKinds(closed) {
			counts[kind]++
		}
	}
	wantCounts(t, counts, map[string]int{
		"area": 3000, "three steps": 500, "step of no length": 1000, "straight on": 1000, "back": 1000, "leaves the points": 10,
	})
}

// checkNoTraverse checks all functions for a list that is no traverse.
func checkNoTraverse(t *testing.T, list []impl.Point) {
	t.Helper()
	checkTravelValid(t, list, false)
	ahead := list[:min(len(list), 13)]
	starts := []impl.Point{none, at(5, -5), at(placeMax, -placeMax), at(placeMax+1, 0), at(math.MinInt, math.MaxInt)}
	if len(list) > 0 {
		starts = append(starts, list[0], opposed(list[0]))
	}
	for _, from := range starts {
		checkNoWay(t, from, list)
	}
	if gap, fine := impl.TravelGap(list); gap != none || fine {
		t.Errorf("TravelGap of %d steps, %v ahead, is %v, %v", len(list), ahead, gap, fine)
	}
	if length := impl.TravelLength(list); length != -1 {
		t.Errorf("TravelLength of %d steps, %v ahead, is %d", len(list), ahead, length)
	}
	if closed, fine := impl.TravelClose(list); len(closed) != 0 || fine {
		t.Errorf("TravelClose of %d steps, %v ahead, is %v, %v", len(list), ahead, closed, fine)
	}
}

func checkNoWay(t *testing.T, from impl.Point, list []impl.Point) {
	t.Helper()
	ahead := list[:min(len(list), 13)]
	if points, fine := impl.TravelPoints(from, list); len(points) != 0 || fine {
		t.Errorf("TravelPoints from %v of %d steps, %v ahead, is %v, %v", from, len(list), ahead, points, fine)
	}
	if end, fine := impl.TravelEnd(from, list); end != none || fine {
		t.Errorf("TravelEnd from %v of %d steps, %v ahead, is %v, %v", from, len(list), ahead, end, fine)
	}
}

// noTraverses are lists of no step and of too many, and lists whose sums wrap around to steps.
func noTraverses() [][]impl.Point {
	lists := [][]impl.Point{nil, {}}
	for _, many := range []int{cornersMax + 1, cornersMax + 2, 2 * cornersMax, 255, 256, 257, 268, 1000, 1 << 16, 1<<16 + 3, 100000} {
		lists = append(lists, make([]impl.Point, many), slices.Repeat([]impl.Point{at(1, 0)}, many), slices.Repeat([]impl.Point{at(3, -4), at(-3, 4)}, many)[:many])
	}
	for _, far := range []impl.Point{at(math.MinInt, 0), at(0, math.MinInt), at(math.MinInt, math.MinInt), at(1<<63-1<<62, 5)} {
		lists = append(lists, []impl.Point{far, far}, []impl.Point{far, far, far, far}, []impl.Point{far, at(1, 1), far}, []impl.Point{far, opposed(far)})
	}
	return lists
}

func TestNoTraverses(t *testing.T) {
	for _, list := range noTraverses() {
		checkNoTraverse(t, list)
	}
	for _, list := range polygonTraverses() {
		if len(list) == cornersMax {
			checkNoTraverse(t, append(slices.Clone(list), none))
			checkNoTraverse(t, append([]impl.Point{none}, list...))
		}
	}
}

// TestInvalidTravelSteps puts each invalid step at each place, also with the next step making up for it.
func TestInvalidTravelSteps(t *testing.T) {
	checks := 0
	for _, c := range travelCases {
		for i, s := range c.list {
			for _, bad := range invalidSteps() {
				list := slices.Clone(c.list)
				list[i] = bad
				checkNoTraverse(t, list)
				if k := next(list, i); k != i {
					list[k] = at(list[k].X+s.X-bad.X, list[k].Y+s.Y-bad.Y)
					checkNoTraverse(t, list)
					checks++
				}
			}
		}
	}
	if checks < 1000 {
		t.Errorf("only %d lists were checked", checks)
	}
}

// TestTravelSteps tries steps at and next to the limits, alone and as the last one of many.
func TestTravelSteps(t *testing.T) {
	for _, s := range slices.Concat(nearSteps(), farSteps()) {
		for _, list := range [][]impl.Point{{s}, {s, s}, {none, s}, append(make([]impl.Point, cornersMax-1), s)} {
			checkTravelValid(t, list, true)
			gapOf(t, list)
			lengthOf(t, list)
			closedOf(t, list)
			for _, from := range farPoints() {
				travelled(t, from, list)
			}
		}
	}
	for _, s := range invalidSteps() {
		checkNoTraverse(t, []impl.Point{s})
	}
}

// TestInvalidTravelStarts begins at invalid points, from which steps lead to points, or wrap around to them.
func TestInvalidTravelStarts(t *testing.T) {
	for _, c := range travelCases {
		for _, from := range invalidPoints() {
			checkNoWay(t, from, c.list)
			back := at(min(max(-from.X, -stepMax), stepMax), min(max(-from.Y, -stepMax), stepMax))
			checkNoWay(t, from, append([]impl.Point{back}, c.list[1:]...))
			checkNoWay(t, from, []impl.Point{back})
		}
	}
}

// TestTravelArgumentsStay gives lists with room behind their ends, which must stay as well.
func TestTravelArgumentsStay(t *testing.T) {
	lists := append(noTraverses()[:12], []impl.Point{at(0, 0), at(1, 0), at(0, stepMax+1)})
	for _, c := range travelCases {
		lists = append(lists, c.list, wantedBackSteps(c.list))
	}
	for k, list := range mixedTraverses() {
		if k%7 == 0 {
			lists = append(lists, list)
		}
	}
	for _, list := range lists {
		room := append(slices.Clone(list), at(71, 72), at(73, 74), at(75, 76))
		ahead := slices.Clone(room)
		given := room[:len(list)]
		impl.TravelValid(given)
		impl.TravelGap(given)
		impl.TravelLength(given)
		for _, from := range []impl.Point{none, at(-50, 60), at(placeMax, placeMax), at(placeMax+1, 0)} {
			impl.TravelEnd(from, given)
			points, _ := impl.TravelPoints(from, given)
			spoil(points, at(-91, -92))
		}
		closed, _ := impl.TravelClose(given)
		spoil(closed, at(-93, -94))
		if !slices.Equal(room, ahead) {
			t.Fatalf("%v became %v", ahead, room)
		}
	}
}

func TestTravelResultsAreNew(t *testing.T) {
	source := rand.New(rand.NewPCG(33, 7))
	for _, list := range allTraverses() {
		from := fittingStart(source, list)
		checkNewList(t, "TravelPoints", at(-91, -92), func() []impl.Point { points, _ := impl.TravelPoints(from, list); return points })
		checkNewList(t, "TravelClose", at(-93, -94), func() []impl.Point { closed, _ := impl.TravelClose(list); return closed })
	}
}
