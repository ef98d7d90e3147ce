package tests

import (
	"math"
	"math/big"
	"math/rand/v2"
	"slices"
	"sync"
	"testing"

	"loop.example/levellingnet/impl"
)

// counterclockwise returns a simple polygon, or its corners in the opposite order.
func counterclockwise(list []impl.Point) []impl.Point {
	if wantedArea(list) < 0 {
		return wantedCornersBack(list)
	}
	return list
}

// isParcel asks for a list of at most CornersMax valid points.
func isParcel(list []impl.Point) bool {
	return len(list) >= 3 && isSimple(list) && wantedArea(list) > 0
}

// cornersTo returns the corners from the index i on to the index j, over the end if j is less.
func cornersTo(list []impl.Point, i int, j int) []impl.Point {
	part := []impl.Point{list[i]}
	for i != j {
		i = next(list, i)
		part = append(part, list[i])
	}
	return part
}

func isPair(list []impl.Point, i int, j int) bool {
	return 0 <= i && i < j && j < len(list)
}

// wantedSplit returns the parts of a parcel, whose indexes may be any.
func wantedSplit(list []impl.Point, i int, j int) ([]impl.Point, []impl.Point, bool) {
	if !isPair(list, i, j) {
		return nil, nil, false
	}
	first, second := cornersTo(list, i, j), cornersTo(list, j, i)
	if !isParcel(first) || !isParcel(second) {
		return nil, nil, false
	}
	return first, second, true
}

// isInnerLine reports whether the line between two corners of a parcel begins to the inside, and has no point in common with the sides but its ends.
func isInnerLine(list []impl.Point, i int, j int) bool {
	if !isPair(list, i, j) {
		return false
	}
	for k, p := range list {
		allowed := 0
		for _, end := range []int{i, j} {
			if k == end || next(list, k) == end {
				allowed++
			}
		}
		if commonPoints(list[i], list[j], p, list[next(list, k)]) != allowed {
			return false
		}
	}
	before, here, behind, to := list[(i+len(list)-1)%len(list)], list[i], list[next(list, i)], list[j]
	leftBefore, leftBehind := wantedSide(before, here, to) > 0, wantedSide(here, behind, to) > 0
	if wantedSide(before, here, behind) < 0 {
		return leftBefore || leftBehind
	}
	return leftBefore && leftBehind
}

// wantedMarks leaves out the corners on the line between both neighbors.
func wantedMarks(list []impl.Point) []impl.Point {
	var marks []impl.Point
	for i, p := range list {
		if !wantedOn(list[(i+len(list)-1)%len(list)], list[next(list, i)], p) {
			marks = append(marks, p)
		}
	}
	return marks
}

// wantedCommon looks for each side, turned, in the set of the sides of the other parcel.
func wantedCommon(a []impl.Point, b []impl.Point) int {
	sides := map[[2]impl.Point]bool{}
	for i, p := range b {
		sides[[2]impl.Point{p, b[next(b, i)]}] = true
	}
	many := 0
	for i, p := range a {
		if sides[[2]impl.Point{a[next(a, i)], p}] {
			many++
		}
	}
	return many
}

func wantedShare(first []impl.Point, list []impl.Point) impl.Quo {
	share, _ := quoOfRational(big.NewRat(int64(wantedArea(first)), int64(wantedArea(list))))
	return share
}

// parcelCase is a parcel with all pairs of corners between which a line splits it, each with the area of the first part, and with the indexes of its marks.
type parcelCase struct {
	name   string
	list   []impl.Point
	splits map[[2]int]int
	marks  []int
}

// parcelCases are worked out by hand.
var parcelCases = []parcelCase{
	{"least triangle", []impl.Point{at(0, 0), at(1, 0), at(0, 1)}, nil, []int{0, 1, 2}},
	{"unit square", []impl.Point{at(0, 0), at(1, 0), at(1, 1), at(0, 1)}, map[[2]int]int{{0, 2}: 1, {1, 3}: 1}, []int{0, 1, 2, 3}},
	{"dart, with one line outside", []impl.Point{at(0, 0), at(4, 2), at(0, 4), at(1, 2)}, map[[2]int]int{{1, 3}: 6}, []int{0, 1, 2, 3}},
	{"triangle with a straight corner", []impl.Point{at(0, 0), at(2, 0), at(4, 0), at(0, 4)}, map[[2]int]int{{1, 3}: 8}, []int{0, 2, 3}},
	{
		"triangle with straight corners on one side only, no two of which have a line between them",
		[]impl.Point{at(0, 0), at(1, 0), at(2, 0), at(3, 0), at(4, 0), at(0, 1)},
		map[[2]int]int{{1, 5}: 3, {2, 5}: 2, {3, 5}: 1},
		[]int{0, 4, 5},
	},
	{
		"triangle with straight corners on all sides",
		[]impl.Point{at(0, 0), at(1, 0), at(4, 0), at(2, 2), at(0, 4), at(0, 3)},
		map[[2]int]int{{0, 3}: 8, {1, 3}: 6, {1, 4}: 12, {1, 5}: 13, {2, 5}: 4, {3, 5}: 2},
		[]int{0, 2, 4},
	},
	{
		"square whose first and last corners are straight",
		[]impl.Point{at(2, 0), at(3, 0), at(3, 3), at(0, 3), at(0, 0), at(1, 0)},
		map[[2]int]int{{0, 2}: 3, {0, 3}: 12, {1, 3}: 9, {2, 4}: 9, {2, 5}: 12, {3, 5}: 3},
		[]int{1, 2, 3, 4},
	},
	{
		"two peaks, with lines through the corner between them and across it",
		[]impl.Point{at(0, 0), at(6, 0), at(6, 2), at(5, 4), at(3, 2), at(1, 4), at(0, 2)},
		map[[2]int]int{{0, 2}: 12, {0, 4}: 24, {0, 5}: 34, {1, 3}: 2, {1, 4}: 12, {1, 6}: 24, {2, 4}: 6, {4, 6}: 6},
		[]int{0, 1, 2, 3, 4, 5, 6},
	},
	{
		"angle, with a line along a side and on through the inside",
		[]impl.Point{at(0, 0), at(4, 0), at(4, 2), at(2, 2), at(2, 4), at(0, 4), at(0, 2)},
		map[[2]int]int{{0, 2}: 8, {0, 3}: 12, {0, 4}: 16, {1, 3}: 4, {1, 6}: 16, {3, 5}: 4, {3, 6}: 8, {4, 6}: 4},
		[]int{0, 1, 2, 3, 4, 5},
	},
	{
		"gate, with lines outside on a side",
		[]impl.Point{at(0, 0), at(1, 0), at(1, 1), at(2, 1), at(2, 0), at(3, 0), at(3, 2), at(0, 2)},
		map[[2]int]int{{0, 2}: 1, {1, 7}: 8, {2, 6}: 4, {2, 7}: 7, {3, 5}: 1, {3, 6}: 3, {3, 7}: 6, {4, 6}: 2},
		[]int{0, 1, 2, 3, 4, 5, 6, 7},
	},
	{
		"greatest square",
		[]impl.Point{at(-placeMax, -placeMax), at(placeMax, -placeMax), at(placeMax, placeMax), at(-placeMax, placeMax)},
		map[[2]int]int{{0, 2}: 400000000, {1, 3}: 400000000},
		[]int{0, 1, 2, 3},
	},
	{
		"half of the greatest square with the thinnest part",
		[]impl.Point{at(-placeMax, -placeMax), at(placeMax, -placeMax), at(placeMax, placeMax-1), at(-placeMax+1, -placeMax+1)},
		map[[2]int]int{{0, 2}: 399980000, {1, 3}: 399960001},
		[]int{0, 1, 2, 3},
	},
	{
		"nearly the greatest square, with shares that cannot be reduced",
		[]impl.Point{at(-placeMax, -placeMax), at(placeMax-1, -placeMax), at(placeMax, placeMax-1), at(-placeMax, placeMax)},
		map[[2]int]int{{0, 2}: 399960001, {1, 3}: 399980001},
		[]int{0, 1, 2, 3},
	},
}

// withStraightCorners puts points on the sides, some of them beside each other.
func withStraightCorners(source *rand.Rand, list []impl.Point, many int) []impl.Point {
	i := 0
	for range many {
		if source.IntN(3) == 0 {
			i = source.IntN(len(list))
		}
		if p := pointAlong(source, list, i); !slices.Contains(list, p) {
			list = slices.Insert(slices.Clone(list), i+1, p)
		}
	}
	return begunAt(list, source.IntN(len(list)))
}

func stretched(list []impl.Point, factor int) []impl.Point {
	return eachPoint(list, func(p impl.Point) impl.Point { return at(factor*p.X, factor*p.Y) })
}

var straightParcels = sync.OnceValue(func() [][]impl.Point {
	source := rand.New(rand.NewPCG(32, 79))
	var all [][]impl.Point
	for _, list := range slices.Concat(smallPolygons(), grownPolygons()) {
		if len(list) > 3 && len(list) < cornersMax && source.IntN(2) == 0 || len(list) == 3 && source.IntN(8) == 0 {
			longer := list
			if isWithin20(list) {
				longer = stretched(list, 5)
			}
			all = append(all, withStraightCorners(source, counterclockwise(longer), cornersMax-len(list)))
		}
	}
	return all
})

// allParcels are the parcels of the tests.
var allParcels = sync.OnceValue(func() [][]impl.Point {
	all := slices.Clone(straightParcels())
	for _, list := range smallPolygons() {
		if wantedArea(list) > 0 {
			all = append(all, list)
		}
	}
	for _, list := range grownPolygons() {
		all = append(all, counterclockwise(list))
	}
	for _, c := range polygonCases {
		all = append(all, c.list)
	}
	for _, c := range parcelCases {
		all = append(all, c.list)
	}
	return all
})

// checkSplit checks both parts of a split, or that there are none, and that the share goes with them.
func checkSplit(t *testing.T, list []impl.Point, i int, j int, first []impl.Point, second []impl.Point, want bool) {
	t.Helper()
	gotFirst, gotSecond, fine := impl.ParcelSplit(list, i, j)
	if !slices.Equal(gotFirst, first) || !slices.Equal(gotSecond, second) || fine != want {
		t.Fatalf("ParcelSplit(%v, %d, %d) is %v, %v, %v, wanted %v, %v, %v", list, i, j, gotFirst, gotSecond, fine, first, second, want)
	}
	var share impl.Quo
	if want {
		share = wantedShare(first, list)
	}
	if got, fine := impl.ParcelShare(list, i, j); got != share || fine != want {
		t.Fatalf("ParcelShare(%v, %d, %d) is %v, %v, wanted %v, %v", list, i, j, got, fine, share, want)
	}
}

func checkParcelValid(t *testing.T, list []impl.Point, want bool) {
	t.Helper()
	if got := impl.ParcelValid(list); got != want {
		t.Fatalf("ParcelValid(%v) is %v", list, got)
	}
}

// splitOf returns ParcelSplit, which must be what the test computes.
func splitOf(t *testing.T, list []impl.Point, i int, j int) ([]impl.Point, []impl.Point, bool) {
	t.Helper()
	first, second, fine := wantedSplit(list, i, j)
	checkSplit(t, list, i, j, first, second, fine)
	return first, second, fine
}

// marksOf returns ParcelMarks, which must be what the test computes.
func marksOf(t *testing.T, list []impl.Point) []impl.Point {
	t.Helper()
	marks, fine := impl.ParcelMarks(list)
	if want := wantedMarks(list); !slices.Equal(marks, want) || !fine {
		t.Fatalf("ParcelMarks(%v) is %v, %v, wanted %v", list, marks, fine, want)
	}
	return marks
}

// commonOf returns ParcelCommon, which must be what the test computes.
func commonOf(t *testing.T, a []impl.Point, b []impl.Point) int {
	t.Helper()
	common := impl.ParcelCommon(a, b)
	if want := wantedCommon(a, b); common != want {
		t.Fatalf("ParcelCommon(%v, %v) is %d, wanted %d", a, b, common, want)
	}
	return common
}

// eachIndexPair calls with all pairs of indexes and of the numbers next to these.
func eachIndexPair(list []impl.Point, call func(i int, j int)) {
	for i := -2; i < len(list)+2; i++ {
		for j := -2; j < len(list)+2; j++ {
			call(i, j)
		}
	}
}

// firstArea returns the area of the first part of a case whose corners begin at the one with the index k.
func (c parcelCase) firstArea(i int, j int, k int) (int, bool) {
	if !isPair(c.list, i, j) {
		return 0, false
	}
	i, j = (i+k)%len(c.list), (j+k)%len(c.list)
	if i < j {
		area, fine := c.splits[[2]int{i, j}]
		return area, fine
	}
	area, fine := c.splits[[2]int{j, i}]
	return wantedArea(c.list) - area, fine
}

func (c parcelCase) marksFrom(list []impl.Point, k int) []impl.Point {
	var marks []impl.Point
	for i := range list {
		if slices.Contains(c.marks, (i+k)%len(list)) {
			marks = append(marks, list[i])
		}
	}
	return marks
}

func TestParcelCases(t *testing.T) {
	for _, c := range parcelCases {
		list := c.list
		for range 4 {
			for k := range list {
				checkParcelCase(t, c, begunAt(list, k), k)
			}
			list = turnedLeft(list)
		}
	}
}

func checkParcelCase(t *testing.T, c parcelCase, list []impl.Point, k int) {
	t.Helper()
	checkParcelValid(t, list, true)
	eachIndexPair(list, func(i, j int) {
		area, want := c.firstArea(i, j, k)
		if !want {
			checkSplit(t, list, i, j, nil, nil, false)
			return
		}
		first, second := cornersTo(list, i, j), cornersTo(list, j, i)
		if wantedArea(first) != area {
			t.Errorf("the first part %v of the %s has the area %d, wanted %d", first, c.name, wantedArea(first), area)
		}
		checkSplit(t, list, i, j, first, second, true)
	})
	if marks, fine := impl.ParcelMarks(list); !slices.Equal(marks, c.marksFrom(list, k)) || !fine {
		t.Errorf("ParcelMarks of the %s %v is %v, %v", c.name, list, marks, fine)
	}
}

func TestParcelValid(t *testing.T) {
	counts := map[string]int{}
	check := func(list []impl.Point) {
		want := isParcel(list)
		checkParcelValid(t, list, want)
		switch {
		case want:
			counts["parcel"]++
		case isSimple(list):
			counts["clockwise"]++
		default:
			counts["not simple"]++
			if wantedArea(list) > 0 {
				counts["not simple with an area"]++
			}
		}
	}
	eachSmallList(check)
	for _, list := range slices.Concat(allPointLists(), allParcels()) {
		check(list)
	}
	wantCounts(t, counts, map[string]int{"parcel": 3000, "clockwise": 3000, "not simple": 3000, "not simple with an area": 3000})
}

// splitKind tells why a line does not split a parcel, or what kind of split it is.
func splitKind(list []impl.Point, i int, j int, fine bool) string {
	if !isPair(list, i, j) {
		return "no pair"
	}
	if next(list, i) == j || next(list, j) == i {
		return "neighbors"
	}
	if fine {
		step := difference(list[i], list[j])
		return map[bool]string{true: "split with points on it", false: "split without points"}[greatestDivisor(step.X, step.Y) > 1]
	}
	if wantedArea(cornersTo(list, i, j)) == 0 || wantedArea(cornersTo(list, j, i)) == 0 {
		return "part without an area"
	}
	kind := "outside"
	for k, p := range list {
		switch {
		case commonPoints(list[i], list[j], p, list[next(list, k)]) == 2:
			return "along a side"
		case k != i && k != j && wantedOn(list[i], list[j], p):
			return "through a corner"
		case k != i && k != j && next(list, k) != i && next(list, k) != j && commonPoints(list[i], list[j], p, list[next(list, k)]) == 1:
			kind = "across a side"
		}
	}
	return kind
}

// TestParcelSplits tries the lines between all corners.
func TestParcelSplits(t *testing.T) {
	counts := map[string]int{}
	for _, list := range allParcels() {
		eachIndexPair(list, func(i, j int) {
			_, _, fine := splitOf(t, list, i, j)
			if inner := isInnerLine(list, i, j); inner != fine {
				t.Fatalf("the line from %d to %d inside of %v is %v, but ParcelSplit %v", i, j, list, inner, fine)
			}
			kind := splitKind(list, i, j, fine)
			counts[kind]++
			if fine && !wantedConvex(list) {
				counts["split of a parcel that is not convex"]++
			}
		})
	}
	wantCounts(t, counts, map[string]int{
		"no pair": 1000, "neighbors": 1000, "split with points on it": 1000, "split without points": 1000, "part without an area": 1000,
		"along a side": 50, "through a corner": 50, "across a side": 1000, "outside": 500, "split of a parcel that is not convex": 1000,
	})
}

// TestParcelIndexes gives one index, or both, far from all corners.
func TestParcelIndexes(t *testing.T) {
	far := []int{-1, -2, -12, cornersMax, 255, 256, 258, 1 << 31, 1 << 32, 1<<32 + 2, -1 << 32, 1 << 62, math.MaxInt, math.MaxInt - 1, math.MinInt, math.MinInt + 1, math.MinInt + 2}
	for _, c := range parcelCases {
		for _, bad := range far {
			for _, other := range slices.Concat(far, []int{0, 1, 2, 3, len(c.list) - 1, len(c.list)}) {
				checkSplit(t, c.list, bad, other, nil, nil, false)
				checkSplit(t, c.list, other, bad, nil, nil, false)
			}
		}
	}
}

// TestParcelMarks counts parcels with straight corners at all places.
func TestParcelMarks(t *testing.T) {
	counts := map[string]int{}
	for _, list := range allParcels() {
		for i := range list {
			begun := begunAt(list, i)
			marks := marksOf(t, begun)
			isMark := func(p impl.Point) bool { return slices.Contains(marks, p) }
			if len(marks) == len(list) {
				counts["no straight corner"]++
			}
			if !isMark(begun[0]) {
				counts["the first corner"]++
			}
			if !isMark(begun[len(list)-1]) {
				counts["the last corner"]++
			}
			if !isMark(begun[0]) && !isMark(begun[1]) && !isMark(begun[len(list)-1]) {
				counts["the first two corners and the last one"]++
			}
		}
	}
	wantCounts(t, counts, map[string]int{
		"no straight corner": 1000, "the first corner": 1000, "the last corner": 1000, "the first two corners and the last one": 100,
	})
}

// turnedAbout returns a parcel turned by two right angles around the middle of a side, which both have in common.
func turnedAbout(list []impl.Point, i int) []impl.Point {
	a, b := list[i], list[next(list, i)]
	return eachPoint(list, func(p impl.Point) impl.Point { return at(a.X+b.X-p.X, a.Y+b.Y-p.Y) })
}

// commonCases are pairs of parcels and the number of their common sides.
var commonCases = []struct {
	name string
	a, b []impl.Point
	want int
}{
	{"squares with one common side", []impl.Point{at(0, 0), at(2, 0), at(2, 2), at(0, 2)}, []impl.Point{at(2, 0), at(4, 0), at(4, 2), at(2, 2)}, 1},
	{"squares whose common side has a corner in one of both", []impl.Point{at(0, 0), at(2, 0), at(2, 2), at(0, 2)}, []impl.Point{at(2, 0), at(4, 0), at(4, 2), at(2, 2), at(2, 1)}, 0},
	{"squares whose common side has a corner in both", []impl.Point{at(0, 0), at(2, 0), at(2, 1), at(2, 2), at(0, 2)}, []impl.Point{at(2, 0), at(4, 0), at(4, 2), at(2, 2), at(2, 1)}, 2},
	{"a corner in one of two common sides", []impl.Point{at(0, 0), at(2, 0), at(2, 1), at(2, 3), at(0, 3)}, []impl.Point{at(2, 0), at(4, 0), at(4, 3), at(2, 3), at(2, 2), at(2, 1)}, 1},
	{"sides that begin on each other", []impl.Point{at(0, 0), at(2, 0), at(2, 2), at(0, 2)}, []impl.Point{at(2, 1), at(4, 1), at(4, 3), at(2, 3)}, 0},
	{"sides with one common end", []impl.Point{at(0, 0), at(2, 0), at(2, 2), at(0, 2)}, []impl.Point{at(2, 0), at(4, 0), at(4, 3), at(2, 3)}, 0},
	{"a side in the middle of another one", []impl.Point{at(0, 0), at(2, 0), at(2, 3), at(0, 3)}, []impl.Point{at(2, 1), at(4, 1), at(4, 2), at(2, 2)}, 0},
	{"one common corner", []impl.Point{at(0, 0), at(2, 0), at(2, 2), at(0, 2)}, []impl.Point{at(2, 2), at(4, 2), at(4, 4), at(2, 4)}, 0},
	{"two common corners without a side between them in one", []impl.Point{at(0, 0), at(2, 0), at(2, 2), at(0, 2)}, []impl.Point{at(2, 0), at(4, 1), at(2, 2), at(3, 1)}, 0},
	{"far from each other", []impl.Point{at(0, 0), at(2, 0), at(2, 2), at(0, 2)}, []impl.Point{at(placeMax-1, placeMax), at(placeMax-1, placeMax-1), at(placeMax, placeMax)}, 0},
	{"on each other with a side in the same direction", []impl.Point{at(0, 0), at(2, 0), at(2, 2), at(0, 2)}, []impl.Point{at(0, 0), at(2, 0), at(1, 1)}, 0},
	{"on each other with a side in the opposite direction", []impl.Point{at(0, 0), at(3, 0), at(1, 1), at(0, 3)}, []impl.Point{at(1, 1), at(3, 0), at(3, 3), at(0, 3)}, 2},
	{"a gate and what it holds", []impl.Point{at(0, 0), at(1, 0), at(1, 1), at(2, 1), at(2, 0), at(3, 0), at(3, 2), at(0, 2)}, []impl.Point{at(1, 0), at(2, 0), at(2, 1), at(1, 1)}, 3},
	{"a ring with a corner twice, which is no parcel, and what it holds", []impl.Point{at(0, 0), at(5, 0), at(5, 1), at(1, 1), at(1, 4), at(4, 4), at(4, 2), at(5, 1), at(5, 5), at(0, 5)}, []impl.Point{at(1, 1), at(4, 2), at(4, 4), at(1, 4)}, -1},
	{"a hook and what it holds", []impl.Point{at(0, 0), at(5, 0), at(5, 1), at(1, 1), at(1, 4), at(4, 4), at(4, 2), at(5, 2), at(5, 5), at(0, 5)}, []impl.Point{at(1, 1), at(5, 1), at(4, 2), at(4, 4), at(1, 4)}, 4},
	{"two crescents", []impl.Point{at(0, 0), at(1, -1), at(2, -1), at(3, 0), at(2, 0), at(1, 0)}, []impl.Point{at(0, 0), at(1, 0), at(2, 0), at(3, 0), at(2, 1), at(1, 1)}, 3},
	{"halves of the greatest square", []impl.Point{at(-placeMax, -placeMax), at(placeMax, -placeMax), at(placeMax, placeMax)}, []impl.Point{at(-placeMax, -placeMax), at(placeMax, placeMax), at(-placeMax, placeMax)}, 1},
	{"two triangles of 12 corners with 10 common sides on one line", elevenOnLine(-1), elevenOnLine(1), 10},
}

// elevenOnLine returns a triangle with 11 corners on one side, and the other one above them or below.
func elevenOnLine(y int) []impl.Point {
	list := []impl.Point{at(5, y)}
	for x := range 11 {
		if y < 0 {
			x = 10 - x
		}
		list = append(list, at(x, 0))
	}
	return list
}

func TestCommonCases(t *testing.T) {
	for _, c := range commonCases {
		for i := range c.a {
			for j := range c.b {
				for _, pair := range [][2][]impl.Point{{begunAt(c.a, i), begunAt(c.b, j)}, {begunAt(c.b, j), begunAt(c.a, i)}} {
					if got := impl.ParcelCommon(pair[0], pair[1]); got != c.want {
						t.Errorf("ParcelCommon of %s, %v and %v, is %d, wanted %d", c.name, pair[0], pair[1], got, c.want)
					}
				}
			}
		}
	}
}

// neighborsOf returns the parcel itself, its parts, it begun elsewhere, turned about its sides, and other parcels near it.
func neighborsOf(source *rand.Rand, list []impl.Point) [][]impl.Point {
	all := [][]impl.Point{list, begunAt(list, 1)}
	for i := range list {
		if turned := turnedAbout(list, i); pointsInRange(turned) {
			all = append(all, turned)
		}
		if first, second, fine := wantedSplit(list, i, source.IntN(len(list))); fine {
			all = append(all, first, second)
		}
	}
	small := smallPolygons()
	for range 5 {
		other := counterclockwise(small[source.IntN(len(small))])
		if moved := movedBy(other, difference(other[0], list[source.IntN(len(list))])); pointsInRange(moved) {
			all = append(all, moved)
		}
	}
	return all
}

// eachNeighbors calls with pairs of parcels, many of which have common sides or corners.
func eachNeighbors(call func(a []impl.Point, b []impl.Point)) {
	source := rand.New(rand.NewPCG(32, 80))
	for _, list := range allParcels() {
		all := neighborsOf(source, list)
		for i, a := range all {
			call(list, a)
			call(a, all[source.IntN(i+1)])
		}
	}
}

func commonCorners(a []impl.Point, b []impl.Point) int {
	return len(slices.DeleteFunc(slices.Clone(a), func(p impl.Point) bool { return !slices.Contains(b, p) }))
}

// haveSidesOnEachOther reports whether a side goes against another one, with more than one common point, but not between the same ends.
func haveSidesOnEachOther(a []impl.Point, b []impl.Point) bool {
	for i, p := range a {
		for j, q := range b {
			s, u := difference(p, a[next(a, i)]), difference(q, b[next(b, j)])
			against := s.X*u.X+s.Y*u.Y < 0
			if against && commonPoints(p, a[next(a, i)], q, b[next(b, j)]) == 2 && (p != b[next(b, j)] || q != a[next(a, i)]) {
				return true
			}
		}
	}
	return false
}

func TestParcelCommon(t *testing.T) {
	counts := map[string]int{}
	eachNeighbors(func(a, b []impl.Point) {
		common := commonOf(t, a, b)
		switch {
		case common > 2:
			counts["more common sides"]++
		case common > 0:
			counts["common sides"]++
		case commonCorners(a, b) == 1:
			counts["one common corner"]++
		}
		if haveSidesOnEachOther(a, b) {
			counts["sides on each other"]++
		}
	})
	wantCounts(t, counts, map[string]int{"more common sides": 50, "common sides": 1000, "one common corner": 1000, "sides on each other": 100})
}

func TestPromise75(t *testing.T) {
	counts := map[string]int{}
	for _, list := range slices.Concat(allPolygons(), allPointLists(), allParcels()) {
		if !impl.ParcelValid(list) {
			continue
		}
		counts["parcel"]++
		if area := areaOf(t, list); !impl.PolyValid(list) || area <= 0 {
			t.Fatalf("ParcelValid(%v) holds, but PolyValid is %v and PolyArea %d", list, impl.PolyValid(list), area)
		}
		checkParcelValid(t, cornersBackOf(t, list), false)
		if moved := movedBy(list, at(3, 3)); pointsInRange(moved) {
			checkParcelValid(t, moved, true)
		} else {
			counts["beyond the limits"]++
			checkParcelValid(t, moved, false)
		}
		low, high := bounds(list)
		checkParcelValid(t, movedBy(list, at(placeMax-high.X, placeMax-high.Y)), true)
		checkParcelValid(t, movedBy(list, at(-placeMax-low.X, placeMax-high.Y)), true)
	}
	wantCounts(t, counts, map[string]int{"parcel": 3000, "beyond the limits": 20})
}

// eachSplit calls with all parcels of the tests and their parts.
func eachSplit(t *testing.T, call func(list []impl.Point, i int, j int, first []impl.Point, second []impl.Point)) {
	t.Helper()
	splits := 0
	for _, list := range allParcels() {
		for j := range list {
			for i := range j {
				if first, second, fine := splitOf(t, list, i, j); fine {
					splits++
					call(list, i, j, first, second)
				}
			}
		}
	}
	if splits < 5000 {
		t.Errorf("only %d splits were checked", splits)
	}
}

func TestPromise76(t *testing.T) {
	eachSplit(t, func(list []impl.Point, i int, j int, first []impl.Point, second []impl.Point) {
		checkParcelValid(t, first, true)
		checkParcelValid(t, second, true)
		if sum := areaOf(t, first) + areaOf(t, second); sum != areaOf(t, list) {
			t.Fatalf("the parts of %v at %d and %d have the area %d", list, i, j, sum)
		}
		between := impl.PointGaps(list[i], list[j]) - 1
		if sum := impl.PolyInside(first) + impl.PolyInside(second) + between; sum != impl.PolyInside(list) {
			t.Fatalf("%d points are inside of the parts of %v at %d and %d and on the line between them, but PolyInside is %d", sum, list, i, j, impl.PolyInside(list))
		}
		if commonOf(t, first, second) != 1 || commonOf(t, second, first) != 1 {
			t.Fatalf("the parts of %v at %d and %d have not one common side", list, i, j)
		}
	})
}

func TestPromise77(t *testing.T) {
	source := rand.New(rand.NewPCG(32, 77))
	counts := map[string]int{}
	splits := 0
	eachSplit(t, func(list []impl.Point, i int, j int, first []impl.Point, second []impl.Point) {
		if splits++; splits%7 != 0 && len(list) > 5 {
			return
		}
		points := placesFor(source, list)
		if len(points) > 30 {
			source.Shuffle(len(points), func(i, j int) { points[i], points[j] = points[j], points[i] })
			points = points[:30]
		}
		for _, p := range append(points, pointAlong(source, first, len(first)-1)) {
			whole, one, other := placeOf(t, list, p), placeOf(t, first, p), placeOf(t, second, p)
			if one == 1 && (whole != 1 || other != -1) || other == 1 && (whole != 1 || one != -1) || whole == -1 && (one != -1 || other != -1) {
				t.Fatalf("%v has the place %d in %v, and %d and %d in its parts at %d and %d", p, whole, list, one, other, i, j)
			}
			switch {
			case one == 1:
				counts["in the first part"]++
			case other == 1:
				counts["in the second part"]++
			case whole == 1:
				counts["on the line between both"]++
			case whole == -1:
				counts["outside"]++
			}
		}
	})
	wantCounts(t, counts, map[string]int{"in the first part": 500, "in the second part": 500, "on the line between both": 200, "outside": 500})
}

func TestPromise78(t *testing.T) {
	one := quo(1, 1)
	greatest := 0
	eachSplit(t, func(list []impl.Point, i int, j int, first []impl.Point, second []impl.Point) {
		share, fine := impl.ParcelShare(list, i, j)
		if !fine || !impl.QuoValid(share) || share.Top <= 0 || share.Top >= share.Low {
			t.Fatalf("ParcelShare(%v, %d, %d) is %v, %v", list, i, j, share, fine)
		}
		greatest = max(greatest, share.Low)
		begun, end := begunAt(list, j), len(list)-j+i
		checkSplit(t, begun, 0, end, second, first, true)
		other, fine := impl.ParcelShare(begun, 0, end)
		if rest, restFine := impl.QuoTake(one, share); other != rest || !fine || !restFine {
			t.Fatalf("ParcelShare(%v, %d, %d) is %v, but %v begun at the second index", list, i, j, share, other)
		}
	})
	if greatest != 799960001 {
		t.Errorf("the greatest Low of all shares is %d", greatest)
	}
}

func TestPromise79(t *testing.T) {
	fewer := 0
	for _, list := range allParcels() {
		for _, view := range [][]impl.Point{list, begunAt(list, 1), begunAt(list, len(list)-1), turnedLeft(list)} {
			marks := marksOf(t, view)
			checkParcelValid(t, marks, true)
			if areaOf(t, marks) != areaOf(t, view) || impl.PolyInside(marks) != impl.PolyInside(view) {
				t.Fatalf("PolyArea or PolyInside of %v and its marks %v differ", view, marks)
			}
			for i, p := range marks {
				before, behind := marks[(i+len(marks)-1)%len(marks)], marks[next(marks, i)]
				if side, fine := impl.PointSide(before, behind, p); impl.PointOn(before, behind, p) || side == 0 || !fine {
					t.Fatalf("the mark %v of %v lies on the line between its neighbors", p, view)
				}
			}
			if again := marksOf(t, marks); !slices.Equal(again, marks) {
				t.Fatalf("ParcelMarks(%v) is %v", marks, again)
			}
			if len(marks) < len(view) {
				fewer++
			}
		}
	}
	if fewer < 1000 {
		t.Errorf("only %d parcels with straight corners were checked", fewer)
	}
}

func TestPromise80(t *testing.T) {
	eachNeighbors(func(a, b []impl.Point) {
		common := commonOf(t, a, b)
		if common < 0 || common > len(a) || common > len(b) {
			t.Fatalf("ParcelCommon(%v, %v) is %d", a, b, common)
		}
		if other := commonOf(t, b, a); other != common {
			t.Fatalf("ParcelCommon(%v, %v) is %d, but %d for both exchanged", a, b, common, other)
		}
	})
	for _, list := range allParcels() {
		for i := range list {
			if common := impl.ParcelCommon(list, begunAt(list, i)); common != 0 {
				t.Fatalf("ParcelCommon of %v and itself, begun at %d, is %d", list, i, common)
			}
		}
	}
}

// checkNoParcel checks all functions for a list that is no parcel.
func checkNoParcel(t *testing.T, list []impl.Point) {
	t.Helper()
	checkParcelValid(t, list, false)
	if marks, fine := impl.ParcelMarks(list); len(marks) != 0 || fine {
		t.Errorf("ParcelMarks(%v) is %v, %v", list, marks, fine)
	}
	square := []impl.Point{at(0, 0), at(1, 0), at(1, 1), at(0, 1)}
	for _, pair := range [][2][]impl.Point{{list, square}, {square, list}, {list, list}, {list, nil}, {nil, list}} {
		if common := impl.ParcelCommon(pair[0], pair[1]); common != -1 {
			t.Errorf("ParcelCommon(%v, %v) is %d", pair[0], pair[1], common)
		}
	}
	for _, pair := range [][2]int{{0, 2}, {1, 3}, {0, 3}, {2, 4}, {0, 1}, {0, 0}, {2, 0}, {-1, 1}, {0, len(list) - 1}, {1, len(list) - 1}, {0, len(list)}, {math.MinInt, math.MaxInt}} {
		checkSplit(t, list, pair[0], pair[1], nil, nil, false)
	}
}

func TestNoParcels(t *testing.T) {
	for _, list := range noPolygons() {
		checkNoParcel(t, list)
	}
	for _, c := range faultCases {
		for i := range c.list {
			checkNoParcel(t, begunAt(c.list, i))
			checkNoParcel(t, begunAt(wantedCornersBack(c.list), i))
		}
	}
	for _, list := range changedPolygons() {
		if !isSimple(list) {
			checkNoParcel(t, list)
		}
	}
	thirteen := elevenOnLine(1)
	checkNoParcel(t, slices.Insert(thirteen, 2, at(0, -1)))
}

// TestClockwiseParcels gives parcels that would have all results, but for their direction.
func TestClockwiseParcels(t *testing.T) {
	for _, list := range allParcels() {
		back := cornersBackOf(t, list)
		for i := range list {
			checkNoParcel(t, begunAt(back, i))
		}
		if common := impl.ParcelCommon(list, back); common != -1 {
			t.Errorf("ParcelCommon(%v, %v) is %d", list, back, common)
		}
	}
}

func TestInvalidParcelCorners(t *testing.T) {
	for _, c := range parcelCases {
		for i := range c.list {
			for _, bad := range invalidPoints() {
				changed := slices.Clone(c.list)
				changed[i] = bad
				checkNoParcel(t, changed)
			}
		}
		for _, bad := range badPlaces {
			for _, step := range []impl.Point{at(bad, 0), at(0, bad), at(bad, bad)} {
				if moved := movedBy(c.list, step); !pointsInRange(moved) {
					checkNoParcel(t, moved)
				}
			}
		}
	}
}

// TestParcelArgumentsStay gives lists with room behind their ends, which must stay as well.
func TestParcelArgumentsStay(t *testing.T) {
	lists := append(noPolygons(), []impl.Point{at(0, 0), at(1, 0), at(0, placeMax+1)})
	for _, c := range faultCases {
		lists = append(lists, c.list)
	}
	for _, c := range parcelCases {
		lists = append(lists, c.list, wantedCornersBack(c.list))
	}
	for _, list := range lists {
		room := append(slices.Clone(list), at(71, 72), at(73, 74), at(75, 76))
		ahead := slices.Clone(room)
		given := room[:len(list)]
		impl.ParcelValid(given)
		impl.ParcelCommon(given, given)
		for _, pair := range [][2]int{{0, 2}, {1, 3}, {0, 3}, {2, 4}, {1, 4}, {3, 5}, {2, 2}, {3, 1}, {-1, 2}} {
			impl.ParcelShare(given, pair[0], pair[1])
			first, second, _ := impl.ParcelSplit(given, pair[0], pair[1])
			spoil(first, at(-91, -92))
			spoil(second, at(-93, -94))
		}
		marks, _ := impl.ParcelMarks(given)
		spoil(marks, at(-95, -96))
		if !slices.Equal(room, ahead) {
			t.Fatalf("%v became %v", ahead, room)
		}
	}
}

func TestParcelResultsAreNew(t *testing.T) {
	for _, list := range allParcels() {
		checkNewList(t, "ParcelMarks", at(-91, -92), func() []impl.Point {
			return marksOf(t, list)
		})
	}
	eachSplit(t, func(list []impl.Point, i int, j int, first []impl.Point, second []impl.Point) {
		one, other, _ := impl.ParcelSplit(list, i, j)
		spoil(one, at(-91, -92))
		if !slices.Equal(other, second) {
			t.Fatalf("the second part of ParcelSplit(%v, %d, %d) became %v with the first one", list, i, j, other)
		}
		one, other, _ = impl.ParcelSplit(list, i, j)
		spoil(other, at(-91, -92))
		if !slices.Equal(one, first) {
			t.Fatalf("the first part of ParcelSplit(%v, %d, %d) became %v with the second one", list, i, j, one)
		}
	})
}
