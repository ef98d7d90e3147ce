package tests

import (
	"math"
	"testing"

	"loop.example/levellingnet/impl"
)

const (
	placeMax = impl.PlaceMax
	stepMax  = 2 * impl.PlaceMax
)

// badPlaces are no coordinates of points. Sums and differences of some of them wrap around to 0 or to other coordinates, and the low 32 bits of some look like coordinates.
var badPlaces = []int{
	placeMax + 1, -placeMax - 1, stepMax, -stepMax, stepMax + 1, -stepMax - 1,
	1 << 31, -1 << 31, 1 << 32, -1 << 32, 1<<32 + 5, 1 << 62, -1 << 62,
	math.MaxInt, math.MaxInt - 1, math.MinInt, math.MinInt + 1, math.MinInt + 5,
}

func at(x int, y int) impl.Point {
	return impl.Point{X: x, Y: y}
}

func pointsOf(places []int) []impl.Point {
	var list []impl.Point
	for _, x := range places {
		for _, y := range places {
			list = append(list, at(x, y))
		}
	}
	return list
}

// nearPoints are all points of a small square.
func nearPoints() []impl.Point {
	return pointsOf([]int{-3, -2, -1, 0, 1, 2, 3})
}

// farPoints are points at and next to the limits, and some between them.
func farPoints() []impl.Point {
	return pointsOf([]int{-placeMax, -placeMax + 1, -5000, 0, 1, 3333, placeMax - 1, placeMax})
}

// invalidPoints returns points with one coordinate or both beyond the limits.
func invalidPoints() []impl.Point {
	var list []impl.Point
	for _, bad := range badPlaces {
		for _, good := range []int{0, 5, placeMax, -placeMax} {
			list = append(list, at(bad, good), at(good, bad))
		}
		list = append(list, at(bad, bad), at(bad, -bad), at(bad, math.MinInt))
	}
	return list
}

func opposed(p impl.Point) impl.Point {
	return at(-p.X, -p.Y)
}

func difference(a impl.Point, b impl.Point) impl.Point {
	return at(b.X-a.X, b.Y-a.Y)
}

// eachPair calls with all pairs of near points and of far points.
func eachPair(call func(a impl.Point, b impl.Point)) {
	for _, list := range [][]impl.Point{nearPoints(), farPoints()} {
		for _, a := range list {
			for _, b := range list {
				call(a, b)
			}
		}
	}
}

// eachTriple calls with all triples of near points and of far points.
func eachTriple(call func(a impl.Point, b impl.Point, c impl.Point)) {
	for _, list := range [][]impl.Point{nearPoints(), farPoints()} {
		for _, a := range list {
			for _, b := range list {
				for _, c := range list {
					call(a, b, c)
				}
			}
		}
	}
}

// wantedSide is the sign of twice the area of the triangle, corner by corner.
func wantedSide(a impl.Point, b impl.Point, c impl.Point) int {
	return sign(a.X*(b.Y-c.Y) + b.X*(c.Y-a.Y) + c.X*(a.Y-b.Y))
}

func between(low int, n int, high int) bool {
	return min(low, high) <= n && n <= max(low, high)
}

func wantedOn(a impl.Point, b impl.Point, c impl.Point) bool {
	return wantedSide(a, b, c) == 0 && between(a.X, c.X, b.X) && between(a.Y, c.Y, b.Y)
}

func TestPointValid(t *testing.T) {
	for _, p := range append(nearPoints(), farPoints()...) {
		if !impl.PointValid(p) {
			t.Errorf("PointValid(%v) is false", p)
		}
	}
	for _, p := range invalidPoints() {
		if impl.PointValid(p) {
			t.Errorf("PointValid(%v) is true", p)
		}
	}
}

func TestPointStepCases(t *testing.T) {
	cases := []struct {
		a, b, want impl.Point
		fine       bool
	}{
		{at(1, 2), at(7, 6), at(6, 4), true},
		{at(7, 6), at(1, 2), at(-6, -4), true},
		{at(5, -5), at(5, -5), at(0, 0), true},
		{at(-placeMax, placeMax), at(placeMax, -placeMax), at(stepMax, -stepMax), true},
		{at(placeMax, placeMax), at(placeMax, placeMax), at(0, 0), true},
		{at(placeMax+1, 0), at(placeMax, 0), at(0, 0), false},
		{at(0, 0), at(0, -placeMax-1), at(0, 0), false},
		{at(math.MinInt, 0), at(math.MinInt, 0), at(0, 0), false},
		{at(0, math.MaxInt), at(0, math.MinInt), at(0, 0), false},
	}
	for _, c := range cases {
		if got, fine := impl.PointStep(c.a, c.b); got != c.want || fine != c.fine {
			t.Errorf("PointStep(%v, %v) is %v, %v, wanted %v, %v", c.a, c.b, got, fine, c.want, c.fine)
		}
	}
}

func TestPointMoveCases(t *testing.T) {
	cases := []struct {
		p, s, want impl.Point
		fine       bool
	}{
		{at(1, 2), at(6, 4), at(7, 6), true},
		{at(1, 2), at(0, 0), at(1, 2), true},
		{at(-placeMax, placeMax), at(stepMax, -stepMax), at(placeMax, -placeMax), true},
		{at(placeMax, -placeMax), at(-stepMax, stepMax), at(-placeMax, placeMax), true},
		{at(placeMax, 0), at(1, 0), at(0, 0), false},
		{at(0, -placeMax), at(0, -1), at(0, 0), false},
		{at(0, 0), at(placeMax, -placeMax), at(placeMax, -placeMax), true},
		{at(0, 0), at(placeMax+1, 0), at(0, 0), false},
		{at(0, 0), at(0, -placeMax-1), at(0, 0), false},
		{at(1, 0), at(stepMax, 0), at(0, 0), false},
		{at(-placeMax, 0), at(stepMax+1, 0), at(0, 0), false},
		{at(0, placeMax), at(0, -stepMax-1), at(0, 0), false},
		{at(-placeMax-1, 0), at(1, 0), at(0, 0), false},
		{at(-placeMax-1, 0), at(stepMax, 0), at(0, 0), false},
		{at(-placeMax-1, 0), at(stepMax+1, 0), at(0, 0), false},
		{at(0, placeMax+1), at(0, -2), at(0, 0), false},
		{at(math.MinInt, 0), at(math.MinInt, 0), at(0, 0), false},
		{at(0, math.MaxInt), at(0, -math.MaxInt), at(0, 0), false},
		{at(0, 0), at(math.MinInt, math.MinInt), at(0, 0), false},
		{at(math.MaxInt, 0), at(math.MinInt, 0), at(0, 0), false},
	}
	for _, c := range cases {
		if got, fine := impl.PointMove(c.p, c.s); got != c.want || fine != c.fine {
			t.Errorf("PointMove(%v, %v) is %v, %v, wanted %v, %v", c.p, c.s, got, fine, c.want, c.fine)
		}
	}
}

func TestPointMoveResults(t *testing.T) {
	places := []int{-stepMax, -stepMax + 1, -placeMax - 1, -placeMax, -1, 0, 1, placeMax, placeMax + 1, stepMax - 1, stepMax}
	for _, p := range farPoints() {
		for _, s := range pointsOf(places) {
			want := at(p.X+s.X, p.Y+s.Y)
			good := between(-placeMax, want.X, placeMax) && between(-placeMax, want.Y, placeMax)
			if !good {
				want = impl.Point{}
			}
			if got, fine := impl.PointMove(p, s); got != want || fine != good {
				t.Errorf("PointMove(%v, %v) is %v, %v, wanted %v, %v", p, s, got, fine, want, good)
			}
		}
	}
}

func TestPromise6(t *testing.T) {
	eachPair(func(a impl.Point, b impl.Point) {
		step, fine := impl.PointStep(a, b)
		if step != difference(a, b) || !fine {
			t.Fatalf("PointStep(%v, %v) is %v, %v", a, b, step, fine)
		}
		if end, good := impl.PointMove(a, step); end != b || !good {
			t.Errorf("PointMove(%v, %v) is %v, %v, wanted %v", a, step, end, good, b)
		}
		if back, good := impl.PointStep(b, a); back != opposed(step) || !good {
			t.Errorf("PointStep(%v, %v) is %v, %v, but %v for both exchanged", b, a, back, good, step)
		}
		if far := impl.PointFar(a, b); far != step.X*step.X+step.Y*step.Y || far != impl.PointFar(b, a) {
			t.Errorf("PointFar(%v, %v) is %d, but the step %v", a, b, far, step)
		}
	})
}

func TestPointSideCases(t *testing.T) {
	cases := []struct {
		a, b, c impl.Point
		want    int
	}{
		{at(1, 2), at(7, 6), at(0, 9), 1},
		{at(1, 2), at(7, 6), at(9, 0), -1},
		{at(1, 2), at(7, 6), at(4, 4), 0},
		{at(1, 2), at(7, 6), at(10, 8), 0},
		{at(1, 2), at(7, 6), at(-2, 0), 0},
		{at(0, 0), at(0, 1), at(-1, 0), 1},
		{at(0, 0), at(0, 1), at(1, 0), -1},
		{at(0, 0), at(1, 0), at(0, 1), 1},
		{at(3, 3), at(3, 3), at(5, -7), 0},
		{at(3, 3), at(3, 3), at(3, 3), 0},
		{at(3, 3), at(5, -7), at(3, 3), 0},
		{at(5, -7), at(3, 3), at(3, 3), 0},
		{at(-placeMax, -placeMax), at(placeMax, placeMax), at(placeMax-1, placeMax), 1},
		{at(-placeMax, -placeMax), at(placeMax, placeMax), at(placeMax, placeMax-1), -1},
		{at(-placeMax, -placeMax), at(placeMax, placeMax), at(0, 0), 0},
		{at(-placeMax, -placeMax), at(placeMax, -placeMax), at(placeMax, placeMax), 1},
		{at(-placeMax, -placeMax), at(placeMax, placeMax-1), at(placeMax-1, placeMax-2), -1},
	}
	for _, c := range cases {
		if got, fine := impl.PointSide(c.a, c.b, c.c); got != c.want || !fine {
			t.Errorf("PointSide(%v, %v, %v) is %d, %v, wanted %d", c.a, c.b, c.c, got, fine, c.want)
		}
	}
}

func TestPromise7(t *testing.T) {
	eachTriple(func(a impl.Point, b impl.Point, c impl.Point) {
		side, fine := impl.PointSide(a, b, c)
		if side != wantedSide(a, b, c) || !fine {
			t.Fatalf("PointSide(%v, %v, %v) is %d, %v", a, b, c, side, fine)
		}
		if same, good := impl.PointSide(b, c, a); same != side || !good {
			t.Errorf("PointSide(%v, %v, %v) is %d, %v, but %d with the last point first", b, c, a, same, good, side)
		}
		for _, list := range [][3]impl.Point{{b, a, c}, {a, c, b}, {c, b, a}} {
			if other, good := impl.PointSide(list[0], list[1], list[2]); other != -side || !good {
				t.Errorf("PointSide of %v is %d, %v, but %d for two points exchanged", list, other, good, side)
			}
		}
		if own, good := impl.PointSide(a, b, a); own != 0 || !good {
			t.Errorf("PointSide(%v, %v, %v) is %d, %v", a, b, a, own, good)
		}
	})
}

func TestPointOnCases(t *testing.T) {
	cases := []struct {
		a, b, c impl.Point
		want    bool
	}{
		{at(1, 2), at(7, 6), at(4, 4), true},
		{at(1, 2), at(7, 6), at(1, 2), true},
		{at(1, 2), at(7, 6), at(7, 6), true},
		{at(1, 2), at(7, 6), at(10, 8), false},
		{at(1, 2), at(7, 6), at(-2, 0), false},
		{at(1, 2), at(7, 6), at(4, 5), false},
		{at(0, 0), at(6, 0), at(3, 0), true},
		{at(0, 0), at(6, 0), at(7, 0), false},
		{at(0, 0), at(6, 0), at(3, 1), false},
		{at(0, 0), at(0, -6), at(0, -5), true},
		{at(0, 0), at(0, -6), at(0, 1), false},
		{at(3, 3), at(3, 3), at(3, 3), true},
		{at(3, 3), at(3, 3), at(3, 4), false},
		{at(3, 3), at(3, 3), at(4, 4), false},
		{at(3, 3), at(3, 3), at(0, 0), false},
		{at(-placeMax, -placeMax), at(placeMax, placeMax), at(9999, 9999), true},
		{at(-placeMax, -placeMax), at(placeMax, placeMax), at(9999, 9998), false},
	}
	for _, c := range cases {
		if got := impl.PointOn(c.a, c.b, c.c); got != c.want {
			t.Errorf("PointOn(%v, %v, %v) is %v", c.a, c.b, c.c, got)
		}
	}
}

func TestPromise8(t *testing.T) {
	holds := 0
	eachTriple(func(a impl.Point, b impl.Point, c impl.Point) {
		on := impl.PointOn(a, b, c)
		if on != wantedOn(a, b, c) {
			t.Fatalf("PointOn(%v, %v, %v) is %v", a, b, c, on)
		}
		if on {
			holds++
			checkPromise8(t, a, b, c)
		}
	})
	if holds < 1000 {
		t.Errorf("PointOn held only %d times", holds)
	}
}

func checkPromise8(t *testing.T, a impl.Point, b impl.Point, c impl.Point) {
	t.Helper()
	if side, fine := impl.PointSide(a, b, c); side != 0 || !fine {
		t.Errorf("PointOn(%v, %v, %v) holds, but PointSide is %d, %v", a, b, c, side, fine)
	}
	if !impl.PointOn(b, a, c) {
		t.Errorf("PointOn(%v, %v, %v) holds, but not for both ends exchanged", a, b, c)
	}
	if impl.PointGaps(a, c)+impl.PointGaps(c, b) != impl.PointGaps(a, b) {
		t.Errorf("PointGaps(%v, %v) is not that of both parts at %v", a, b, c)
	}
	if !between(a.X, c.X, b.X) || !between(a.Y, c.Y, b.Y) {
		t.Errorf("PointOn(%v, %v, %v) holds, but the coordinates do not lie between", a, b, c)
	}
}

func TestPointGapsCases(t *testing.T) {
	cases := []struct {
		a, b impl.Point
		want int
	}{
		{at(1, 2), at(7, 6), 2},
		{at(7, 6), at(1, 2), 2},
		{at(1, 6), at(7, 2), 2},
		{at(0, 0), at(1, 0), 1},
		{at(0, 0), at(0, -5), 5},
		{at(-4, 0), at(0, 0), 4},
		{at(0, 0), at(-5, 3), 1},
		{at(4, -9), at(4, -9), 0},
		{at(placeMax, -placeMax), at(placeMax, -placeMax), 0},
		{at(-placeMax, -placeMax), at(placeMax, placeMax), stepMax},
		{at(placeMax, -placeMax), at(-placeMax, placeMax), stepMax},
		{at(-placeMax, -placeMax), at(placeMax, placeMax-1), 1},
		{at(-placeMax, 0), at(placeMax, 0), stepMax},
	}
	for _, c := range cases {
		if got := impl.PointGaps(c.a, c.b); got != c.want {
			t.Errorf("PointGaps(%v, %v) is %d, wanted %d", c.a, c.b, got, c.want)
		}
	}
}

// pointsBehind counts the points but the first one for which PointOn holds, in the square that reaches from it to the distance 10.
func pointsBehind(a impl.Point, b impl.Point) int {
	count := 0
	for x := a.X - 10; x <= a.X+10; x++ {
		for y := a.Y - 10; y <= a.Y+10; y++ {
			if at(x, y) != a && impl.PointOn(a, b, at(x, y)) {
				count++
			}
		}
	}
	return count
}

func TestPromise9(t *testing.T) {
	starts := []impl.Point{at(0, 0), at(-7, 3), at(placeMax, placeMax), at(-placeMax, placeMax-4), at(5000, -placeMax)}
	checks := 0
	for _, a := range starts {
		for x := -11; x <= 11; x++ {
			for y := -11; y <= 11; y++ {
				b := at(a.X+x, a.Y+y)
				gaps := impl.PointGaps(a, b)
				if gaps == -1 || impl.PointFar(a, b) > 100 {
					continue
				}
				checks++
				if want := pointsBehind(a, b); gaps != want {
					t.Errorf("PointGaps(%v, %v) is %d, but PointOn holds for %d points", a, b, gaps, want)
				}
			}
		}
	}
	if checks < 800 {
		t.Errorf("PointGaps was checked only %d times", checks)
	}
}

func TestPointFarCases(t *testing.T) {
	cases := []struct {
		a, b impl.Point
		want int
	}{
		{at(1, 2), at(7, 6), 52},
		{at(7, 6), at(1, 2), 52},
		{at(0, 0), at(-3, 4), 25},
		{at(8, -8), at(8, -8), 0},
		{at(-placeMax, -placeMax), at(placeMax, placeMax), 800000000},
		{at(placeMax, -placeMax), at(-placeMax, -placeMax), 400000000},
	}
	for _, c := range cases {
		if got := impl.PointFar(c.a, c.b); got != c.want {
			t.Errorf("PointFar(%v, %v) is %d, wanted %d", c.a, c.b, got, c.want)
		}
	}
}

func TestPromise10(t *testing.T) {
	checks := 0
	eachTriple(func(a impl.Point, b impl.Point, c impl.Point) {
		d := at(a.X+b.X-c.X, a.Y+b.Y-c.Y)
		if !impl.PointValid(d) {
			return
		}
		checks++
		far := impl.PointFar(a, b)
		if far < 0 {
			t.Fatalf("PointFar(%v, %v) is %d", a, b, far)
		}
		if far+impl.PointFar(c, d) != 2*impl.PointFar(a, c)+2*impl.PointFar(c, b) {
			t.Errorf("PointFar(%v, %v) is %d, which does not fit %v", a, b, far, c)
		}
	})
	if checks < 100000 {
		t.Errorf("PointFar was checked only %d times", checks)
	}
}

func TestInvalidPoints(t *testing.T) {
	valid := []impl.Point{at(0, 0), at(5, 5), at(placeMax, -placeMax)}
	list := invalidPoints()
	for _, bad := range list {
		for _, good := range valid {
			checkInvalidPair(t, bad, good)
			checkInvalidPair(t, good, bad)
			checkInvalidTriple(t, bad, good, good)
			checkInvalidTriple(t, good, bad, good)
			checkInvalidTriple(t, good, good, bad)
			checkInvalidTriple(t, bad, good, bad)
		}
		for _, other := range list {
			checkInvalidPair(t, bad, other)
			checkInvalidTriple(t, bad, other, bad)
			checkInvalidTriple(t, bad, bad, other)
		}
	}
}

func checkInvalidPair(t *testing.T, a impl.Point, b impl.Point) {
	t.Helper()
	if got, fine := impl.PointStep(a, b); got != (impl.Point{}) || fine {
		t.Errorf("PointStep(%v, %v) is %v, %v", a, b, got, fine)
	}
	if got := impl.PointFar(a, b); got != -1 {
		t.Errorf("PointFar(%v, %v) is %d", a, b, got)
	}
	if got := impl.PointGaps(a, b); got != -1 {
		t.Errorf("PointGaps(%v, %v) is %d", a, b, got)
	}
}

func checkInvalidTriple(t *testing.T, a impl.Point, b impl.Point, c impl.Point) {
	t.Helper()
	if got, fine := impl.PointSide(a, b, c); got != 0 || fine {
		t.Errorf("PointSide(%v, %v, %v) is %d, %v", a, b, c, got, fine)
	}
	if impl.PointOn(a, b, c) {
		t.Errorf("PointOn(%v, %v, %v) holds", a, b, c)
	}
}

// badSteps are no coordinates of steps.
var badSteps = []int{
	stepMax + 1, -stepMax - 1, 1 << 31, -1 << 31, 1 << 32, -1 << 32, 1<<32 + 5, 1 << 62, -1 << 62,
	math.MaxInt, math.MaxInt - 1, math.MinInt, math.MinInt + 1, math.MinInt + 5,
}

func TestInvalidMoves(t *testing.T) {
	for _, bad := range invalidPoints() {
		for _, s := range []impl.Point{at(0, 0), at(-1, 1), at(stepMax, stepMax), at(-stepMax, -stepMax), opposed(bad), bad} {
			checkInvalidMove(t, bad, s)
		}
	}
	for _, p := range farPoints() {
		for _, bad := range badSteps {
			for _, s := range []impl.Point{at(bad, 0), at(0, bad), at(bad, bad), at(bad, -bad)} {
				checkInvalidMove(t, p, s)
			}
		}
	}
}

func checkInvalidMove(t *testing.T, p impl.Point, s impl.Point) {
	t.Helper()
	if got, fine := impl.PointMove(p, s); got != (impl.Point{}) || fine {
		t.Errorf("PointMove(%v, %v) is %v, %v", p, s, got, fine)
	}
}
