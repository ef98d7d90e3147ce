package tests

import (
	"math"
	"math/rand/v2"
	"slices"
	"sync"
	"testing"

	"loop.example/levellingnet/impl"
)

const cornersMax = impl.CornersMax

// next is the index of the corner behind that with an index.
func next(list []impl.Point, i int) int {
	return (i + 1) % len(list)
}

func crossed(s impl.Point, u impl.Point) int {
	return s.X*u.Y - s.Y*u.X
}

// isPart reports whether a quotient is at least 0 and at most 1.
func isPart(top int, low int) bool {
	if low < 0 {
		top, low = -top, -low
	}
	return between(0, top, low)
}

// commonPoints counts the points that the straight lines from a to b and from c to d have in common: 0, 1, or 2 for more. No line has equal ends.
func commonPoints(a impl.Point, b impl.Point, c impl.Point, d impl.Point) int {
	s, u, gap := difference(a, b), difference(c, d), difference(a, c)
	if low := crossed(s, u); low != 0 {
		// The lines meet in a plus s times the first quotient, which is c plus u times the second one.
		if isPart(crossed(gap, u), low) && isPart(crossed(gap, s), low) {
			return 1
		}
		return 0
	}
	if crossed(gap, s) != 0 {
		return 0
	}
	along := func(p impl.Point) int { return p.X*s.X + p.Y*s.Y }
	low := max(min(along(a), along(b)), min(along(c), along(d)))
	high := min(max(along(a), along(b)), max(along(c), along(d)))
	return 1 + sign(high-low)
}

const (
	equalBeside = "equal corners beside each other"
	equalApart  = "equal corners apart"
	goesBack    = "a side that goes back on the one before"
	crossing    = "crossing sides"
	touching    = "a corner in the middle of a side"
	lyingOn     = "sides on each other"
)

// sideFault tells what two sides between different corners have in common that they must not have, or "".
func sideFault(list []impl.Point, i int, j int) string {
	a, b, c, d := list[i], list[next(list, i)], list[j], list[next(list, j)]
	common := commonPoints(a, b, c, d)
	switch {
	case next(list, i) == j || next(list, j) == i:
		if common != 1 {
			return goesBack
		}
		return ""
	case common == 0:
		return ""
	case common == 2:
		return lyingOn
	case a == c || a == d || b == c || b == d:
		// These equal corners are a fault by themselves.
		return ""
	case wantedOn(a, b, c) || wantedOn(a, b, d) || wantedOn(c, d, a) || wantedOn(c, d, b):
		return touching
	}
	return crossing
}

// cornerFaults tells which corners are equal.
func cornerFaults(list []impl.Point) []string {
	var faults []string
	for i := range list {
		for j := range i {
			if list[i] != list[j] {
				continue
			}
			if next(list, i) == j || next(list, j) == i {
				faults = append(faults, equalBeside)
			} else {
				faults = append(faults, equalApart)
			}
		}
	}
	return faults
}

// faultsOf tells why a list of 3 to CornersMax valid points is no simple polygon, each reason once. It is one exactly if there are none.
func faultsOf(list []impl.Point) []string {
	faults := cornerFaults(list)
	for i := range list {
		for j := range i {
			if list[i] == list[next(list, i)] || list[j] == list[next(list, j)] {
				continue
			}
			if fault := sideFault(list, i, j); fault != "" {
				faults = append(faults, fault)
			}
		}
	}
	slices.Sort(faults)
	return slices.Compact(faults)
}

func isSimple(list []impl.Point) bool {
	return len(faultsOf(list)) == 0
}

// wantedArea multiplies each X by the difference of the Y of both neighbors.
func wantedArea(list []impl.Point) int {
	sum := 0
	for i, p := range list {
		sum += p.X * (list[next(list, i)].Y - list[(i+len(list)-1)%len(list)].Y)
	}
	return sum
}

func wantedEdge(list []impl.Point) int {
	sum := 0
	for i, p := range list {
		step := difference(p, list[next(list, i)])
		sum += greatestDivisor(step.X, step.Y)
	}
	return sum
}

func isOnSide(list []impl.Point, p impl.Point) bool {
	for i, a := range list {
		if wantedOn(a, list[next(list, i)], p) {
			return true
		}
	}
	return false
}

// wantedPlace counts the sides that cross a straight line so flat and so long that no other point with whole coordinates in range lies on it.
func wantedPlace(list []impl.Point, p impl.Point) int {
	if isOnSide(list, p) {
		return 0
	}
	end := at(p.X+2*stepMax+1, p.Y+1)
	place := -1
	for i, a := range list {
		if b := list[next(list, i)]; commonPoints(p, end, a, b) == 1 {
			place = -place
		}
	}
	return place
}

// wantedConvex asks for all corners on one side of the line along each side.
func wantedConvex(list []impl.Point) bool {
	for i, a := range list {
		for _, c := range list {
			if wantedSide(a, list[next(list, i)], c)*wantedArea(list) < 0 {
				return false
			}
		}
	}
	return isSimple(list)
}

func begunAt(list []impl.Point, i int) []impl.Point {
	return slices.Concat(list[i:], list[:i])
}

func wantedCornersBack(list []impl.Point) []impl.Point {
	back := slices.Clone(list)
	slices.Reverse(back[1:])
	return back
}

func eachPoint(list []impl.Point, change func(p impl.Point) impl.Point) []impl.Point {
	changed := slices.Clone(list)
	for i, p := range list {
		changed[i] = change(p)
	}
	return changed
}

func turnedLeft(list []impl.Point) []impl.Point {
	return eachPoint(list, func(p impl.Point) impl.Point { return at(-p.Y, p.X) })
}

func movedBy(list []impl.Point, step impl.Point) []impl.Point {
	return eachPoint(list, func(p impl.Point) impl.Point { return at(p.X+step.X, p.Y+step.Y) })
}

// views returns a list turned by each number of right angles and begun at each of its corners, in its own order.
func views(list []impl.Point) [][]impl.Point {
	var all [][]impl.Point
	for range 4 {
		for i := range list {
			all = append(all, begunAt(list, i))
		}
		list = turnedLeft(list)
	}
	return all
}

func pointsInRange(list []impl.Point) bool {
	return !slices.ContainsFunc(list, func(p impl.Point) bool {
		return !between(-placeMax, p.X, placeMax) || !between(-placeMax, p.Y, placeMax)
	})
}

// bounds returns the least and the greatest coordinates of a list.
func bounds(list []impl.Point) (impl.Point, impl.Point) {
	low, high := list[0], list[0]
	for _, p := range list {
		low = at(min(low.X, p.X), min(low.Y, p.Y))
		high = at(max(high.X, p.X), max(high.Y, p.Y))
	}
	return low, high
}

// eachAround calls with all points of the bounds of a list and of one more point on each side.
func eachAround(list []impl.Point, call func(p impl.Point)) {
	low, high := bounds(list)
	for x := low.X - 1; x <= high.X+1; x++ {
		for y := low.Y - 1; y <= high.Y+1; y++ {
			call(at(x, y))
		}
	}
}

// polygonCases are simple polygons that go round counterclockwise, with numbers worked out by hand.
var polygonCases = []struct {
	name               string
	list               []impl.Point
	area, edge, inside int
	convex             bool
}{
	{"least triangle", []impl.Point{at(0, 0), at(1, 0), at(0, 1)}, 1, 3, 0, true},
	{"triangle", []impl.Point{at(0, 0), at(4, 0), at(0, 3)}, 12, 8, 3, true},
	{"slanting triangle", []impl.Point{at(0, 0), at(3, 1), at(1, 2)}, 5, 3, 2, true},
	{"unit square", []impl.Point{at(0, 0), at(1, 0), at(1, 1), at(0, 1)}, 2, 4, 0, true},
	{"diamond", []impl.Point{at(2, 0), at(4, 2), at(2, 4), at(0, 2)}, 16, 8, 5, true},
	{"dart", []impl.Point{at(0, 0), at(4, 2), at(0, 4), at(1, 2)}, 12, 6, 4, false},
	{"house turned over", []impl.Point{at(0, 0), at(4, 0), at(4, 3), at(2, 1), at(0, 3)}, 16, 14, 2, false},
	{"triangle with a straight corner", []impl.Point{at(0, 0), at(2, 0), at(4, 0), at(0, 4)}, 16, 12, 3, true},
	{"triangle with straight corners on all sides", []impl.Point{at(0, 0), at(1, 0), at(4, 0), at(2, 2), at(0, 4), at(0, 3)}, 16, 12, 3, true},
	{"square with a straight corner", []impl.Point{at(0, 0), at(2, 0), at(4, 0), at(4, 4), at(0, 4)}, 32, 16, 9, true},
	{"square of 12 corners", []impl.Point{at(0, 0), at(1, 0), at(2, 0), at(3, 0), at(3, 1), at(3, 2), at(3, 3), at(2, 3), at(1, 3), at(0, 3), at(0, 2), at(0, 1)}, 18, 12, 4, true},
	{"angle", []impl.Point{at(0, 0), at(4, 0), at(4, 2), at(2, 2), at(2, 4), at(0, 4)}, 24, 16, 5, false},
	{"angle with a straight corner", []impl.Point{at(0, 0), at(4, 0), at(4, 2), at(3, 2), at(2, 2), at(2, 4), at(0, 4)}, 24, 16, 5, false},
	{"cross", []impl.Point{at(1, 0), at(2, 0), at(2, 1), at(3, 1), at(3, 2), at(2, 2), at(2, 3), at(1, 3), at(1, 2), at(0, 2), at(0, 1), at(1, 1)}, 10, 12, 0, false},
	{"comb", []impl.Point{at(0, 0), at(5, 0), at(5, 3), at(4, 3), at(4, 1), at(3, 1), at(3, 3), at(2, 3), at(2, 1), at(1, 1), at(1, 3), at(0, 3)}, 22, 24, 0, false},
	{"spiral", []impl.Point{at(0, 0), at(5, 0), at(5, 5), at(1, 5), at(1, 2), at(3, 2), at(3, 3), at(2, 3), at(2, 4), at(4, 4), at(4, 1), at(0, 1)}, 30, 32, 0, false},
	{"round with 12 corners", []impl.Point{at(0, 0), at(3, 1), at(5, 3), at(6, 6), at(5, 9), at(3, 11), at(0, 12), at(-3, 11), at(-5, 9), at(-6, 6), at(-5, 3), at(-3, 1)}, 208, 16, 97, true},
	{"crown", []impl.Point{at(0, 0), at(10, 0), at(10, 4), at(8, 2), at(6, 4), at(4, 2), at(2, 4), at(1, 2), at(0, 4)}, 60, 28, 17, false},
	{"gate with sides on one line", []impl.Point{at(0, 0), at(1, 0), at(1, 1), at(2, 1), at(2, 0), at(3, 0), at(3, 2), at(0, 2)}, 10, 12, 0, false},
	{"greatest square", []impl.Point{at(-placeMax, -placeMax), at(placeMax, -placeMax), at(placeMax, placeMax), at(-placeMax, placeMax)}, 800000000, 80000, 399960001, true},
	{"greatest diamond", []impl.Point{at(0, -placeMax), at(placeMax, 0), at(0, placeMax), at(-placeMax, 0)}, 400000000, 40000, 199980001, true},
	{"half of the greatest square", []impl.Point{at(-placeMax, -placeMax), at(placeMax, -placeMax), at(placeMax, placeMax)}, 400000000, 60000, 199970001, true},
	{"long and thin with many points", []impl.Point{at(-placeMax, -placeMax), at(placeMax, placeMax-1), at(placeMax, placeMax)}, 20000, 20002, 0, true},
	{"long and thinnest", []impl.Point{at(-placeMax, -placeMax), at(placeMax, placeMax-1), at(-placeMax+1, -placeMax+1)}, 1, 3, 0, true},
	{"least triangle at a limit", []impl.Point{at(placeMax, placeMax), at(placeMax-1, placeMax), at(placeMax, placeMax-1)}, 1, 3, 0, true},
}

// faultCases are lists of valid points that are no simple polygons, for this reason, and their areas. Sides that lie on each other make a corner touch a side as well.
var faultCases = []struct {
	fault string
	list  []impl.Point
	area  int
}{
	{equalBeside, []impl.Point{at(0, 0), at(0, 0), at(4, 0), at(0, 3)}, 12},
	{equalBeside, []impl.Point{at(0, 0), at(4, 0), at(4, 3), at(0, 3), at(0, 0)}, 24},
	{equalBeside, []impl.Point{at(0, 0), at(4, 0), at(4, 0), at(4, 0), at(0, 3)}, 12},
	{equalBeside, []impl.Point{at(5, 5), at(5, 5), at(5, 5)}, 0},
	{equalApart, []impl.Point{at(0, 0), at(2, 0), at(1, 1), at(2, 2), at(0, 2), at(1, 1)}, 4},
	{equalApart, []impl.Point{at(0, 0), at(1, 1), at(2, 0), at(2, 2), at(1, 1), at(0, 2)}, 4},
	{equalApart, []impl.Point{at(0, 0), at(2, 0), at(2, 1), at(2, 2), at(0, 2), at(0, 1), at(-2, 1), at(0, 1)}, 8},
	{equalApart, []impl.Point{at(0, 0), at(4, 0), at(0, 0), at(0, 3)}, 0},
	{goesBack, []impl.Point{at(0, 0), at(4, 0), at(2, 0), at(0, 3)}, 6},
	{goesBack, []impl.Point{at(2, 0), at(4, 0), at(0, 0), at(0, 3)}, -6},
	{goesBack, []impl.Point{at(0, 0), at(2, 0), at(4, 0)}, 0},
	{goesBack, []impl.Point{at(0, 0), at(3, 3), at(1, 1)}, 0},
	{goesBack, []impl.Point{at(-placeMax, -placeMax), at(0, 0), at(placeMax, placeMax)}, 0},
	{goesBack, []impl.Point{at(0, 0), at(5, 0), at(2, 0), at(1, 0)}, 0},
	{goesBack, []impl.Point{at(3, 0), at(3, 1), at(3, 2), at(3, 3), at(3, 4), at(3, 5), at(3, 6), at(3, 7), at(3, 8), at(3, 9), at(3, 10), at(3, 11)}, 0},
	{crossing, []impl.Point{at(0, 0), at(2, 2), at(2, 0), at(0, 2)}, 0},
	{crossing, []impl.Point{at(0, 0), at(3, 3), at(3, 0), at(0, 2)}, -3},
	{crossing, []impl.Point{at(0, 10), at(6, -8), at(-10, 3), at(10, 3), at(-6, -8)}, -304},
	{crossing, []impl.Point{at(0, 0), at(6, 0), at(6, 4), at(4, 4), at(4, -1), at(3, -1), at(3, 4), at(0, 4)}, 38},
	{touching, []impl.Point{at(0, 0), at(4, 0), at(4, 2), at(2, 0), at(0, 2)}, 8},
	{touching, []impl.Point{at(0, 0), at(2, 0), at(2, 2), at(1, 0), at(0, 4)}, 6},
	{touching, []impl.Point{at(0, 0), at(6, 0), at(6, 6), at(3, 6), at(3, 0), at(2, 6), at(0, 6)}, 66},
	{lyingOn, []impl.Point{at(0, 0), at(6, 0), at(6, 3), at(4, 0), at(2, 0), at(0, 3)}, 12},
	{lyingOn, []impl.Point{at(0, 0), at(4, 4), at(0, 4), at(2, 2), at(6, 6), at(0, 6)}, 44},
}

// closeCases are lists in which a corner comes close to a side, or reaches it.
var closeCases = []struct {
	list []impl.Point
	want bool
}{
	{[]impl.Point{at(-placeMax, -placeMax), at(placeMax, placeMax-1), at(placeMax, placeMax), at(-placeMax+1, -placeMax+1)}, true},
	{[]impl.Point{at(-placeMax, -placeMax), at(placeMax, placeMax-1), at(placeMax, placeMax), at(-placeMax+2, -placeMax+1)}, false},
	{[]impl.Point{at(-placeMax, -placeMax), at(placeMax, placeMax), at(-placeMax, placeMax), at(-1, 0), at(-placeMax, 0)}, true},
	{[]impl.Point{at(-placeMax, -placeMax), at(placeMax, placeMax), at(-placeMax, placeMax), at(0, 0), at(-placeMax, 0)}, false},
	{[]impl.Point{at(-placeMax, -placeMax), at(placeMax, placeMax), at(-placeMax, placeMax), at(1, 0), at(-placeMax, 0)}, false},
	{[]impl.Point{at(-placeMax, -placeMax), at(placeMax, placeMax), at(placeMax, -placeMax), at(-placeMax, placeMax)}, false},
	{[]impl.Point{at(0, 0), at(4, 0), at(4, 2), at(2, 1), at(0, 2)}, true},
	{[]impl.Point{at(0, 0), at(3, 0), at(6, 0), at(6, 3), at(4, 1), at(2, 1), at(0, 3)}, true},
	{[]impl.Point{at(0, 0), at(1, 1), at(2, 0), at(3, 1), at(4, 0), at(4, 4), at(0, 4)}, true},
	{[]impl.Point{at(0, 0), at(1, 4), at(2, 0), at(3, 4), at(4, 0), at(4, 4), at(0, 4)}, false},
}

// eachSmallList calls with all lists of 3 to 6 points of small grids, with equal corners and with corners on one line. It changes the list after the call.
func eachSmallList(call func(list []impl.Point)) {
	grids := [][]impl.Point{3: pointsOf([]int{0, 1, 2, 3}), 4: pointsOf([]int{-1, 0, 1}), 5: pointsOf([]int{0, 1, 2}), 6: pointsOf([]int{0, 1, 2})[:6]}
	for size, grid := range grids {
		if size < 3 {
			continue
		}
		list := make([]impl.Point, size)
		for number := range int(math.Pow(float64(len(grid)), float64(size))) {
			for i := range list {
				list[i] = grid[number%len(grid)]
				number /= len(grid)
			}
			call(list)
		}
	}
}

// isBegunLow reports whether no corner is ahead of the first one, which holds for just one beginning of a polygon.
func isBegunLow(list []impl.Point) bool {
	low, _ := bounds(list)
	for _, p := range list {
		if p.X == low.X && p.Y < list[0].Y {
			return false
		}
	}
	return list[0].X == low.X
}

var smallPolygons = sync.OnceValue(func() [][]impl.Point {
	var all [][]impl.Point
	eachSmallList(func(list []impl.Point) {
		if isBegunLow(list) && isSimple(list) {
			all = append(all, slices.Clone(list))
		}
	})
	return all
})

// somePoint returns a point of a square; of one at the limits, often at these.
func somePoint(source *rand.Rand, most int) impl.Point {
	coordinate := func() int {
		if most == placeMax && source.IntN(3) == 0 {
			return most * (2*source.IntN(2) - 1)
		}
		return source.IntN(2*most+1) - most
	}
	return at(coordinate(), coordinate())
}

// pointAlong returns a point with whole coordinates on a side.
func pointAlong(source *rand.Rand, list []impl.Point, i int) impl.Point {
	step := difference(list[i], list[next(list, i)])
	parts := max(1, greatestDivisor(step.X, step.Y))
	part := source.IntN(parts + 1)
	return at(list[i].X+step.X/parts*part, list[i].Y+step.Y/parts*part)
}

// grown returns a simple polygon with as many corners, or with fewer if no more find room. It puts corners on sides, too.
func grown(source *rand.Rand, size int, most int) []impl.Point {
	list := []impl.Point{somePoint(source, most), somePoint(source, most), somePoint(source, most)}
	for !isSimple(list) {
		list[source.IntN(3)] = somePoint(source, most)
	}
	for range 40 * size {
		if len(list) == size {
			break
		}
		i := source.IntN(len(list))
		more := somePoint(source, most)
		if source.IntN(4) == 0 {
			more = pointAlong(source, list, i)
		}
		if longer := slices.Insert(slices.Clone(list), i+1, more); isSimple(longer) {
			list = longer
		}
	}
	return list
}

var grownPolygons = sync.OnceValue(func() [][]impl.Point {
	source := rand.New(rand.NewPCG(31, 70))
	var all [][]impl.Point
	for _, most := range []int{1, 2, 4, 10, 60, placeMax} {
		for size := 3; size <= cornersMax; size++ {
			for range 5 {
				all = append(all, grown(source, size, most))
			}
		}
	}
	return all
})

// changedPolygons are polygons with one change, which makes most of them no simple ones.
var changedPolygons = sync.OnceValue(func() [][]impl.Point {
	source := rand.New(rand.NewPCG(31, 71))
	var all [][]impl.Point
	for _, list := range grownPolygons() {
		for change := range 36 {
			all = append(all, changedPolygon(source, list, change%6))
		}
	}
	return all
})

func changedPolygon(source *rand.Rand, list []impl.Point, change int) []impl.Point {
	changed := slices.Clone(list)
	i, j := source.IntN(len(list)), source.IntN(len(list))
	low, high := bounds(list)
	switch change {
	case 0:
		changed[i] = list[j]
	case 1:
		changed[i] = pointAlong(source, list, j)
	case 2:
		changed[i], changed[j] = list[j], list[i]
	case 3:
		changed[i] = at(low.X+source.IntN(high.X-low.X+1), low.Y+source.IntN(high.Y-low.Y+1))
	case 4:
		if len(list) < cornersMax {
			changed = slices.Insert(changed, i, pointAlong(source, list, j))
		}
	case 5:
		if len(list) > 3 {
			changed = slices.Delete(changed, i, i+1)
		}
	}
	return changed
}

// allPolygons are the simple polygons of the tests, in both directions.
var allPolygons = sync.OnceValue(func() [][]impl.Point {
	all := slices.Concat(smallPolygons(), grownPolygons())
	for _, c := range polygonCases {
		all = append(all, c.list, wantedCornersBack(c.list))
	}
	return all
})

// allPointLists are lists of 3 to CornersMax valid points, simple polygons and others, but for the small ones.
var allPointLists = sync.OnceValue(func() [][]impl.Point {
	all := slices.Concat(grownPolygons(), changedPolygons())
	for _, c := range polygonCases {
		all = append(all, c.list)
	}
	for _, c := range faultCases {
		all = append(all, c.list)
	}
	for _, c := range closeCases {
		all = append(all, c.list)
	}
	return all
})

func isWithin20(list []impl.Point) bool {
	low, high := bounds(list)
	return high.X-low.X <= 20 && high.Y-low.Y <= 20
}

func checkValid(t *testing.T, list []impl.Point, want bool) {
	t.Helper()
	if got := impl.PolyValid(list); got != want {
		t.Errorf("PolyValid(%v) is %v", list, got)
	}
}

// areaOf returns PolyArea, which must be what the test computes.
func areaOf(t *testing.T, list []impl.Point) int {
	t.Helper()
	area, fine := impl.PolyArea(list)
	if want := wantedArea(list); area != want || !fine {
		t.Fatalf("PolyArea(%v) is %d, %v, wanted %d", list, area, fine, want)
	}
	return area
}

// placeOf returns PolyPlace, which must be what the test computes.
func placeOf(t *testing.T, list []impl.Point, p impl.Point) int {
	t.Helper()
	place, fine := impl.PolyPlace(list, p)
	if want := wantedPlace(list, p); place != want || !fine {
		t.Fatalf("PolyPlace(%v, %v) is %d, %v, wanted %d", list, p, place, fine, want)
	}
	return place
}

// cornersBackOf returns PolyBack, which must be what the test computes.
func cornersBackOf(t *testing.T, list []impl.Point) []impl.Point {
	t.Helper()
	back, fine := impl.PolyBack(list)
	if want := wantedCornersBack(list); !slices.Equal(back, want) || !fine {
		t.Fatalf("PolyBack(%v) is %v, %v, wanted %v", list, back, fine, want)
	}
	return back
}

// checkPolygon compares all that is one number for a simple polygon.
func checkPolygon(t *testing.T, name string, list []impl.Point, area int, edge int, inside int, convex bool) {
	t.Helper()
	checkValid(t, list, true)
	if got, fine := impl.PolyArea(list); got != area || !fine {
		t.Errorf("PolyArea of the %s %v is %d, %v, wanted %d", name, list, got, fine, area)
	}
	if got := impl.PolyEdge(list); got != edge {
		t.Errorf("PolyEdge of the %s %v is %d, wanted %d", name, list, got, edge)
	}
	if got := impl.PolyInside(list); got != inside {
		t.Errorf("PolyInside of the %s %v is %d, wanted %d", name, list, got, inside)
	}
	if got := impl.PolyConvex(list); got != convex {
		t.Errorf("PolyConvex of the %s %v is %v", name, list, got)
	}
}

func TestPolygonCases(t *testing.T) {
	for _, c := range polygonCases {
		for _, list := range views(c.list) {
			checkPolygon(t, c.name, list, c.area, c.edge, c.inside, c.convex)
		}
		for _, list := range views(wantedCornersBack(c.list)) {
			checkPolygon(t, c.name+" clockwise", list, -c.area, c.edge, c.inside, c.convex)
		}
	}
}

// checkNoPolygon checks a list of 3 to CornersMax valid points that is no simple polygon.
func checkNoPolygon(t *testing.T, list []impl.Point, area int) {
	t.Helper()
	checkNotSimple(t, list, at(0, 0))
	if got, fine := impl.PolyArea(list); got != area || !fine {
		t.Errorf("PolyArea(%v) is %d, %v, wanted %d", list, got, fine, area)
	}
	cornersBackOf(t, list)
}

// checkNotSimple checks the functions that ask for a simple polygon.
func checkNotSimple(t *testing.T, list []impl.Point, p impl.Point) {
	t.Helper()
	checkValid(t, list, false)
	if got := impl.PolyEdge(list); got != -1 {
		t.Errorf("PolyEdge(%v) is %d", list, got)
	}
	if got := impl.PolyInside(list); got != -1 {
		t.Errorf("PolyInside(%v) is %d", list, got)
	}
	if got, fine := impl.PolyPlace(list, p); got != 0 || fine {
		t.Errorf("PolyPlace(%v, %v) is %d, %v", list, p, got, fine)
	}
	if impl.PolyConvex(list) {
		t.Errorf("PolyConvex(%v) holds", list)
	}
}

func TestFaultCases(t *testing.T) {
	for _, c := range faultCases {
		if !slices.Contains(faultsOf(c.list), c.fault) {
			t.Fatalf("%v has the faults %v, not: %s", c.list, faultsOf(c.list), c.fault)
		}
		for _, list := range views(c.list) {
			checkNoPolygon(t, list, c.area)
		}
		for _, list := range views(wantedCornersBack(c.list)) {
			checkNoPolygon(t, list, -c.area)
		}
	}
}

func TestCloseCases(t *testing.T) {
	for _, c := range closeCases {
		for _, list := range slices.Concat(views(c.list), views(wantedCornersBack(c.list))) {
			checkValid(t, list, c.want)
		}
	}
}

// TestPolyValid compares all lists with the document's sentence, side by side.
func TestPolyValid(t *testing.T) {
	counts := map[string]int{}
	check := func(list []impl.Point) {
		faults := faultsOf(list)
		switch {
		case len(faults) == 0 && len(list) == cornersMax:
			counts["simple with 12 corners"]++
		case len(faults) == 0:
			counts["simple"]++
		case len(faults) == 1:
			counts[faults[0]]++
		case slices.Contains(faults, lyingOn):
			counts[lyingOn]++
		}
		if got := impl.PolyValid(list); got != (len(faults) == 0) {
			t.Fatalf("PolyValid(%v) is %v, but the faults are %v", list, got, faults)
		}
	}
	eachSmallList(check)
	for _, list := range allPointLists() {
		check(list)
	}
	wantCounts(t, counts, map[string]int{
		"simple": 10000, "simple with 12 corners": 100, equalBeside: 100, equalApart: 100, goesBack: 100, crossing: 100, touching: 100, lyingOn: 100,
	})
}

// TestPolygons compares all results with those that the test computes.
func TestPolygons(t *testing.T) {
	counts := map[string]int{}
	for _, list := range allPolygons() {
		area, edge, convex := wantedArea(list), wantedEdge(list), wantedConvex(list)
		checkPolygon(t, "polygon", list, area, edge, (max(area, -area)-edge+2)/2, convex)
		cornersBackOf(t, list)
		if convex {
			counts["convex"]++
		} else {
			counts["not convex"]++
		}
		if area > 0 {
			counts["counterclockwise"]++
		} else {
			counts["clockwise"]++
		}
		if hasStraightCorner(list) && convex {
			counts["convex with straight corners"]++
		}
	}
	wantCounts(t, counts, map[string]int{
		"convex": 300, "not convex": 300, "counterclockwise": 300, "clockwise": 300, "convex with straight corners": 100,
	})
}

func hasStraightCorner(list []impl.Point) bool {
	for i, p := range list {
		if wantedSide(p, list[next(list, i)], list[next(list, next(list, i))]) == 0 {
			return true
		}
	}
	return false
}

// TestPolyPlaceCases gives points whose places are told by hand, many of them level with sides and corners.
func TestPolyPlaceCases(t *testing.T) {
	turnedOver := []impl.Point{at(0, 0), at(4, 0), at(4, 3), at(2, 1), at(0, 3)}
	crown := []impl.Point{at(0, 0), at(10, 0), at(10, 4), at(8, 2), at(6, 4), at(4, 2), at(2, 4), at(1, 2), at(0, 4)}
	stairs := []impl.Point{at(0, 0), at(6, 0), at(6, 2), at(4, 2), at(4, 4), at(2, 4), at(2, 2), at(0, 2)}
	far := []impl.Point{at(-placeMax, -placeMax), at(placeMax, -placeMax+1), at(placeMax, placeMax), at(-placeMax, placeMax-1)}
	cases := []struct {
		list   []impl.Point
		places map[int][]impl.Point
	}{
		{turnedOver, map[int][]impl.Point{
			1:  {at(1, 1), at(3, 1)},
			0:  {at(0, 0), at(2, 1), at(4, 3), at(1, 2), at(3, 2), at(2, 0), at(1, 0), at(0, 1), at(0, 2), at(4, 2)},
			-1: {at(2, 2), at(2, 3), at(1, 3), at(3, 3), at(-1, 0), at(5, 0), at(-1, 3), at(5, 3), at(-1, 1), at(5, 1), at(2, -1), at(2, 4), at(0, 4), at(4, -1), at(5, 4)},
		}},
		{crown, map[int][]impl.Point{
			1:  {at(5, 2), at(3, 2), at(2, 2), at(6, 2), at(9, 2), at(2, 3), at(6, 3), at(5, 1)},
			0:  {at(0, 2), at(1, 2), at(4, 2), at(8, 2), at(10, 2), at(3, 3), at(7, 3), at(9, 3), at(0, 4)},
			-1: {at(-1, 2), at(11, 2), at(-1, 4), at(1, 4), at(4, 4), at(8, 4), at(11, 4), at(1, 3), at(4, 3), at(8, 3), at(-5, 0), at(11, 0)},
		}},
		{stairs, map[int][]impl.Point{
			1:  {at(1, 1), at(5, 1), at(3, 2), at(3, 3)},
			0:  {at(1, 2), at(5, 2), at(2, 2), at(4, 2), at(2, 3), at(3, 4), at(6, 1), at(0, 2)},
			-1: {at(-1, 2), at(7, 2), at(1, 4), at(5, 4), at(1, 3), at(5, 3), at(-1, 0), at(7, 0), at(-1, 4), at(3, 5)},
		}},
		{far, map[int][]impl.Point{
			1:  {at(0, 0), at(-placeMax+1, placeMax-2), at(placeMax-1, placeMax-1), at(-placeMax+1, -placeMax+1)},
			0:  {at(-placeMax, 0), at(placeMax, 0), at(placeMax, -placeMax+1), at(-placeMax, placeMax-1), at(placeMax, placeMax)},
			-1: {at(placeMax, -placeMax), at(-placeMax, placeMax), at(0, placeMax), at(0, -placeMax), at(placeMax-1, -placeMax)},
		}},
	}
	for _, c := range cases {
		for want, points := range c.places {
			for _, p := range points {
				checkPlaces(t, c.list, p, want)
			}
		}
	}
}

// checkPlaces turns a polygon and a point together, and begins and goes round the polygon in all ways.
func checkPlaces(t *testing.T, list []impl.Point, p impl.Point, want int) {
	t.Helper()
	for range 4 {
		for i := range list {
			begun := begunAt(list, i)
			for _, around := range [][]impl.Point{begun, wantedCornersBack(begun)} {
				if got, fine := impl.PolyPlace(around, p); got != want || !fine {
					t.Errorf("PolyPlace(%v, %v) is %d, %v, wanted %d", around, p, got, fine, want)
				}
			}
		}
		list, p = turnedLeft(list), at(-p.Y, p.X)
	}
}

// placesFor returns points to be located: all around small polygons, and corners, points on sides, points next to these and others for large ones.
func placesFor(source *rand.Rand, list []impl.Point) []impl.Point {
	var points []impl.Point
	if isWithin20(list) {
		eachAround(list, func(p impl.Point) { points = append(points, p) })
	} else {
		for i, a := range list {
			for range 4 {
				p := pointAlong(source, list, i)
				points = append(points, a, p, at(p.X+1, p.Y), at(p.X-1, p.Y), at(p.X, p.Y+1), at(p.X, p.Y-1), at(source.IntN(stepMax+1)-placeMax, a.Y), somePoint(source, placeMax))
			}
		}
	}
	return slices.DeleteFunc(points, func(p impl.Point) bool { return !pointsInRange([]impl.Point{p}) })
}

// TestPolyPlace compares with the crossings of a flat line.
func TestPolyPlace(t *testing.T) {
	source := rand.New(rand.NewPCG(31, 73))
	counts := map[string]int{}
	for _, list := range allPolygons() {
		for _, p := range placesFor(source, list) {
			name := map[int]string{1: "inside", 0: "on a side", -1: "outside"}[placeOf(t, list, p)]
			counts[name]++
			if !isWithin20(list) {
				counts["far "+name]++
			}
		}
	}
	wantCounts(t, counts, map[string]int{
		"inside": 10000, "on a side": 10000, "outside": 10000, "far inside": 1000, "far on a side": 1000, "far outside": 1000,
	})
}

func TestPromise70(t *testing.T) {
	for _, list := range allPolygons() {
		if !impl.PolyValid(list) {
			t.Fatalf("PolyValid(%v) is false", list)
		}
		for _, view := range slices.Concat(views(list), views(cornersBackOf(t, list))) {
			if area, fine := impl.PolyArea(view); !impl.PolyValid(view) || area == 0 || !fine {
				t.Fatalf("PolyValid(%v) is %v and PolyArea %d, %v, but %v is simple", view, impl.PolyValid(view), area, fine, list)
			}
		}
		checkCornersTwice(t, list)
	}
}

// checkCornersTwice puts a corner in the place of another one, and between any two, where there is room.
func checkCornersTwice(t *testing.T, list []impl.Point) {
	t.Helper()
	for i := range list {
		for j, p := range list {
			if i != j {
				replaced := slices.Clone(list)
				replaced[i] = p
				checkValid(t, replaced, false)
			}
			checkValid(t, slices.Insert(slices.Clone(list), i, p), false)
		}
	}
}

func TestPromise71(t *testing.T) {
	for _, list := range slices.Concat(allPointLists(), smallPolygons()) {
		area := areaOf(t, list)
		for _, view := range views(list) {
			if got, fine := impl.PolyArea(view); got != area || !fine {
				t.Fatalf("PolyArea(%v) is %d, %v, but %d for %v", view, got, fine, area, list)
			}
			if got, fine := impl.PolyArea(cornersBackOf(t, view)); got != -area || !fine {
				t.Fatalf("PolyArea of %v back is %d, %v, but %d for %v", view, got, fine, area, list)
			}
		}
		sum := 0
		for i, p := range list {
			triangle, fine := impl.PolyArea([]impl.Point{list[0], p, list[next(list, i)]})
			if !fine {
				t.Fatalf("PolyArea of a triangle of %v fails", list)
			}
			sum += triangle
		}
		if sum != area {
			t.Fatalf("PolyArea(%v) is %d, but its triangles have %d", list, area, sum)
		}
	}
}

func TestPromise72(t *testing.T) {
	counted := 0
	for _, list := range allPolygons() {
		inside, edge, area := impl.PolyInside(list), impl.PolyEdge(list), areaOf(t, list)
		if inside < 0 || max(area, -area) != 2*inside+edge-2 {
			t.Fatalf("PolyInside(%v) is %d, but PolyEdge %d and PolyArea %d", list, inside, edge, area)
		}
		if isWithin20(list) {
			counted++
			checkPointCounts(t, list, inside, edge)
		}
	}
	if counted < 1000 {
		t.Errorf("points were counted only for %d polygons", counted)
	}
}

// checkPointCounts counts the points that PolyPlace tells as inside and on a side, also at the limits of the coordinates.
func checkPointCounts(t *testing.T, list []impl.Point, inside int, edge int) {
	t.Helper()
	low, high := bounds(list)
	steps := []impl.Point{at(0, 0)}
	if len(list)%3 == 0 {
		steps = append(steps, at(placeMax-high.X, placeMax-high.Y), at(-placeMax-low.X, placeMax-high.Y), at(-placeMax-low.X, -placeMax-low.Y))
	}
	for _, step := range steps {
		moved := movedBy(list, step)
		counts := map[int]int{}
		eachAround(moved, func(p impl.Point) {
			place, fine := impl.PolyPlace(moved, p)
			if fine != pointsInRange([]impl.Point{p}) {
				t.Fatalf("PolyPlace(%v, %v) is %d, %v", moved, p, place, fine)
			}
			if fine {
				counts[place]++
			}
		})
		if counts[1] != inside || counts[0] != edge || impl.PolyInside(moved) != inside || impl.PolyEdge(moved) != edge {
			t.Fatalf("%d points are inside of %v and %d on its sides, wanted %d and %d", counts[1], moved, counts[0], inside, edge)
		}
	}
}

func TestPromise73(t *testing.T) {
	source := rand.New(rand.NewPCG(31, 74))
	for _, list := range allPolygons() {
		low, high := bounds(list)
		for _, p := range list {
			if placeOf(t, list, p) != 0 {
				t.Fatalf("the corner %v of %v is not on a side", p, list)
			}
			for _, far := range []impl.Point{at(low.X-1, p.Y), at(high.X+1, p.Y), at(p.X, low.Y-1), at(p.X, high.Y+1), at(low.X-1, low.Y-1), at(high.X+1, low.Y-1)} {
				if pointsInRange([]impl.Point{far}) && placeOf(t, list, far) != -1 {
					t.Fatalf("%v is not outside of %v", far, list)
				}
			}
		}
		points := placesFor(source, list)
		for range 3 {
			checkPlacesStay(t, list, points[source.IntN(len(points))])
		}
	}
}

func checkPlacesStay(t *testing.T, list []impl.Point, p impl.Point) {
	t.Helper()
	place := placeOf(t, list, p)
	for i := range list {
		begun := begunAt(list, i)
		if got, fine := impl.PolyPlace(begun, p); got != place || !fine {
			t.Fatalf("PolyPlace(%v, %v) is %d, %v, but %d for %v", begun, p, got, fine, place, list)
		}
		if got, fine := impl.PolyPlace(cornersBackOf(t, begun), p); got != place || !fine {
			t.Fatalf("PolyPlace of %v back and %v is %d, %v, but %d for %v", begun, p, got, fine, place, list)
		}
	}
}

func TestPromise74(t *testing.T) {
	middles := 0
	for _, list := range allPolygons() {
		if !impl.PolyConvex(list) {
			continue
		}
		for _, view := range slices.Concat(views(list), views(cornersBackOf(t, list))) {
			if !impl.PolyConvex(view) {
				t.Fatalf("PolyConvex(%v) is false, but holds for %v", view, list)
			}
		}
		for _, p := range list {
			for _, q := range list {
				if (p.X+q.X)%2 != 0 || (p.Y+q.Y)%2 != 0 {
					continue
				}
				middles++
				if middle := at((p.X+q.X)/2, (p.Y+q.Y)/2); placeOf(t, list, middle) == -1 {
					t.Fatalf("%v between two corners is outside of %v", middle, list)
				}
			}
		}
	}
	if middles < 1000 {
		t.Errorf("only %d middles were checked", middles)
	}
}

// TestPolyConvexTurns puts a corner behind each corner of a square: inside of it, on the side, and outside.
func TestPolyConvexTurns(t *testing.T) {
	square := []impl.Point{at(0, 0), at(4, 0), at(4, 4), at(0, 4)}
	more := [][]impl.Point{
		{at(2, 1), at(2, 0), at(2, -1)},
		{at(3, 2), at(4, 2), at(5, 2)},
		{at(2, 3), at(2, 4), at(2, 5)},
		{at(1, 2), at(0, 2), at(-1, 2)},
	}
	for i, points := range more {
		for k, p := range points {
			list := slices.Insert(slices.Clone(square), i+1, p)
			for _, around := range [][]impl.Point{list, wantedCornersBack(list)} {
				if got := impl.PolyConvex(around); got != (k > 0) {
					t.Errorf("PolyConvex(%v) is %v", around, got)
				}
			}
		}
	}
}

// noPolygons are lists of another number of points, most of which would be simple polygons.
func noPolygons() [][]impl.Point {
	thirteen := []impl.Point{at(0, 0), at(1, 0), at(2, 0), at(3, 0), at(4, 0), at(4, 1), at(4, 2), at(4, 3), at(3, 3), at(2, 3), at(1, 3), at(0, 3), at(0, 2)}
	lists := [][]impl.Point{nil, {}, {at(0, 0)}, {at(5, -5)}, {at(0, 0), at(1, 0)}, {at(0, 0), at(0, 0)}, {at(placeMax, 0), at(0, placeMax)}, thirteen, append(thirteen, at(0, 1))}
	var round []impl.Point
	for k := range 1000 {
		round = append(round, at(k, k*k/100))
	}
	for _, size := range []int{13, 14, 24, 25, 256 + 3, 256 + 12, 1000} {
		lists = append(lists, round[:size])
	}
	return append(lists, make([]impl.Point, 1<<16+3), slices.Repeat([]impl.Point{at(0, 0), at(1, 0), at(0, 1)}, 5))
}

// checkNoPoints checks lists that are not 3 to CornersMax valid points.
func checkNoPoints(t *testing.T, list []impl.Point, p impl.Point) {
	t.Helper()
	checkNotSimple(t, list, p)
	if got, fine := impl.PolyArea(list); got != 0 || fine {
		t.Errorf("PolyArea(%v) is %d, %v", list, got, fine)
	}
	if got, fine := impl.PolyBack(list); len(got) != 0 || fine {
		t.Errorf("PolyBack(%v) is %v, %v", list, got, fine)
	}
}

func TestNoPolygons(t *testing.T) {
	for _, list := range noPolygons() {
		for _, p := range []impl.Point{at(0, 0), at(1, 1), at(math.MinInt, 0)} {
			checkNoPoints(t, list, p)
		}
	}
}

// polygonsForBad are polygons of few and many corners, at and far from the limits, and lists that are none.
func polygonsForBad() [][]impl.Point {
	lists := [][]impl.Point{faultCases[0].list, faultCases[len(faultCases)-1].list}
	for _, c := range polygonCases {
		lists = append(lists, c.list)
	}
	return lists
}

func TestInvalidCorners(t *testing.T) {
	for _, list := range polygonsForBad() {
		for i := range list {
			for _, bad := range invalidPoints() {
				changed := slices.Clone(list)
				changed[i] = bad
				checkNoPoints(t, changed, list[0])
				checkNoPoints(t, changed, bad)
			}
		}
	}
}

// TestInvalidCornersAll gives lists of invalid points only, some of which would be simple polygons.
func TestInvalidCornersAll(t *testing.T) {
	for _, bad := range badPlaces {
		for _, c := range polygonCases[:10] {
			for _, step := range []impl.Point{at(bad, 0), at(0, bad), at(bad, bad)} {
				if moved := movedBy(c.list, step); !pointsInRange(moved) {
					checkNoPoints(t, moved, at(0, 0))
					checkNoPoints(t, moved, moved[0])
				}
			}
			checkNoPoints(t, slices.Repeat([]impl.Point{at(bad, bad)}, len(c.list)), at(bad, bad))
		}
	}
}

func TestInvalidPlaces(t *testing.T) {
	for _, list := range polygonsForBad() {
		for _, bad := range invalidPoints() {
			if got, fine := impl.PolyPlace(list, bad); got != 0 || fine {
				t.Errorf("PolyPlace(%v, %v) is %d, %v", list, bad, got, fine)
			}
		}
	}
}

// TestPolyArgumentsStay gives lists with room behind their ends, which must stay as well.
func TestPolyArgumentsStay(t *testing.T) {
	lists := append(noPolygons(), []impl.Point{at(0, 0), at(1, 0), at(0, placeMax+1)})
	for _, c := range polygonCases {
		lists = append(lists, c.list)
	}
	for _, c := range faultCases {
		lists = append(lists, c.list)
	}
	for _, list := range lists {
		room := append(slices.Clone(list), at(71, 72), at(73, 74))
		ahead := slices.Clone(room)
		given := room[:len(list)]
		impl.PolyValid(given)
		impl.PolyArea(given)
		impl.PolyEdge(given)
		impl.PolyInside(given)
		impl.PolyPlace(given, at(1, 1))
		impl.PolyConvex(given)
		back, _ := impl.PolyBack(given)
		spoil(back, at(-91, -92))
		if !slices.Equal(room, ahead) {
			t.Fatalf("%v became %v", ahead, room)
		}
	}
}

func TestPolyResultsAreNew(t *testing.T) {
	for _, list := range allPointLists() {
		checkNewList(t, "PolyBack", at(-91, -92), func() []impl.Point {
			return cornersBackOf(t, list)
		})
	}
}
