package tests

import (
	"math"
	"strconv"
	"strings"
	"testing"

	"loop.example/levellingnet/impl"
)

// winds are the four winds in their order, one right angle each behind the one ahead.
var winds = []impl.Point{at(0, 1), at(1, 0), at(0, -1), at(-1, 0)}

// rightAngles are numbers of right angles from all parts of the int range.
var rightAngles = []int{
	0, 1, 2, 3, 4, 5, 6, 7, 8, 101, 1 << 31, 1<<31 + 1, 1<<32 + 2, 1<<62 + 3,
	-1, -2, -3, -4, -5, -6, -7, -8, -101, -1 << 31, -1<<31 - 1, -1<<32 - 2, -1<<62 - 3,
	math.MaxInt, math.MaxInt - 1, math.MaxInt - 2, math.MaxInt - 3,
	math.MinInt, math.MinInt + 1, math.MinInt + 2, math.MinInt + 3,
}

// nearSteps are all steps of a small square, (0, 0) and steps with a common divisor among them.
func nearSteps() []impl.Point {
	var places []int
	for n := -6; n <= 6; n++ {
		places = append(places, n)
	}
	return pointsOf(places)
}

// farSteps are steps at and next to the limits, and some between them.
func farSteps() []impl.Point {
	return pointsOf([]int{-stepMax, -stepMax + 1, -stepMax + 2, -placeMax - 1, -placeMax, -3, 0, 1, 7777, placeMax, placeMax + 1, stepMax - 1, stepMax})
}

// invalidSteps returns pairs with one coordinate or both beyond the limits. Some are multiples of bearings, or would look like bearings if they wrapped around.
func invalidSteps() []impl.Point {
	var list []impl.Point
	for _, bad := range badSteps {
		for _, good := range []int{0, 1, -1, 5, stepMax, -stepMax} {
			list = append(list, at(bad, good), at(good, bad))
		}
		list = append(list, at(bad, bad), at(bad, -bad), at(bad, math.MinInt), at(math.MaxInt, bad))
	}
	return list
}

func bearingsOf(steps []impl.Point) []impl.Point {
	var list []impl.Point
	for _, s := range steps {
		if greatestDivisor(s.X, s.Y) == 1 {
			list = append(list, s)
		}
	}
	return list
}

// noBearings are steps that are no bearings, and pairs that are no steps.
func noBearings() []impl.Point {
	list := []impl.Point{at(0, 0), at(0, 2), at(2, 0), at(0, -2), at(-2, 0), at(0, stepMax), at(-stepMax, 0)}
	for _, s := range append(nearSteps(), farSteps()...) {
		if greatestDivisor(s.X, s.Y) != 1 {
			list = append(list, s)
		}
	}
	return append(list, invalidSteps()...)
}

func eachBearing(call func(b impl.Point)) {
	for _, b := range bearingsOf(append(nearSteps(), farSteps()...)) {
		call(b)
	}
}

func eachBearingPair(call func(a impl.Point, b impl.Point)) {
	list := bearingsOf(append(nearSteps(), farSteps()...))
	for _, a := range list {
		for _, b := range list {
			call(a, b)
		}
	}
}

// angleOf is the angle from the north on, clockwise. Those of different bearings differ by far more than its rounding.
func angleOf(b impl.Point) float64 {
	angle := math.Atan2(float64(b.X), float64(b.Y))
	if angle < 0 {
		return angle + 2*math.Pi
	}
	return angle
}

func wantedLess(a impl.Point, b impl.Point) bool {
	return a != b && angleOf(a) < angleOf(b)
}

func wantedQuarter(b impl.Point) int {
	quarter := 0
	for n, wind := range winds {
		if !wantedLess(b, wind) {
			quarter = n
		}
	}
	return quarter
}

// clockwise turns by 0 to 3 right angles.
func clockwise(b impl.Point, k int) impl.Point {
	return []impl.Point{b, at(b.Y, -b.X), at(-b.X, -b.Y), at(-b.Y, b.X)}[k]
}

// anglesLeft is the rest of a number of right angles modulo 4, from 0 to 3.
func anglesLeft(k int) int {
	return (k%4 + 4) % 4
}

func wantedBearingText(b impl.Point) string {
	for n, wind := range winds {
		if b == wind {
			return []string{"N", "E", "S", "W"}[n]
		}
	}
	text := "N" + strconv.Itoa(b.Y)
	if b.Y < 0 {
		text = "S" + strconv.Itoa(-b.Y)
	}
	if b.X < 0 {
		return text + "W" + strconv.Itoa(-b.X)
	}
	return text + "E" + strconv.Itoa(b.X)
}

func TestBearingOfCases(t *testing.T) {
	cases := []struct {
		s, want impl.Point
		fine    bool
	}{
		{at(-2, 6), at(-1, 3), true},
		{at(-1, 3), at(-1, 3), true},
		{at(2, -6), at(1, -3), true},
		{at(0, 1), at(0, 1), true},
		{at(1, 0), at(1, 0), true},
		{at(0, -1), at(0, -1), true},
		{at(-1, 0), at(-1, 0), true},
		{at(0, 17), at(0, 1), true},
		{at(17, 0), at(1, 0), true},
		{at(0, -17), at(0, -1), true},
		{at(-17, 0), at(-1, 0), true},
		{at(4, 4), at(1, 1), true},
		{at(-4, 4), at(-1, 1), true},
		{at(-4, -6), at(-2, -3), true},
		{at(-7, -11), at(-7, -11), true},
		{at(0, stepMax), at(0, 1), true},
		{at(-stepMax, 0), at(-1, 0), true},
		{at(stepMax, -stepMax), at(1, -1), true},
		{at(-stepMax, -stepMax), at(-1, -1), true},
		{at(stepMax, stepMax-1), at(stepMax, stepMax-1), true},
		{at(stepMax-2, -stepMax), at(placeMax-1, -placeMax), true},
		{at(0, 0), at(0, 0), false},
		{at(stepMax+1, 0), at(0, 0), false},
		{at(0, -stepMax-1), at(0, 0), false},
		{at(stepMax+1, stepMax+1), at(0, 0), false},
		{at(1, stepMax+1), at(0, 0), false},
		{at(2*stepMax, 2*stepMax), at(0, 0), false},
		{at(math.MinInt, math.MinInt), at(0, 0), false},
		{at(0, math.MinInt), at(0, 0), false},
		{at(math.MinInt, 1), at(0, 0), false},
		{at(math.MaxInt, math.MaxInt), at(0, 0), false},
		{at(math.MaxInt, math.MinInt), at(0, 0), false},
	}
	for _, c := range cases {
		if got, fine := impl.BearingOf(c.s); got != c.want || fine != c.fine {
			t.Errorf("BearingOf(%v) is %v, %v, wanted %v, %v", c.s, got, fine, c.want, c.fine)
		}
	}
}

func TestPromise11(t *testing.T) {
	for _, s := range append(nearSteps(), farSteps()...) {
		b, fine := impl.BearingOf(s)
		if fine != (s != at(0, 0)) {
			t.Fatalf("BearingOf(%v) is %v, %v", s, b, fine)
		}
		if fine {
			checkPromise11(t, s, b)
		}
	}
}

func checkPromise11(t *testing.T, s impl.Point, b impl.Point) {
	t.Helper()
	if _, good := impl.BearingQuarter(b); !good || greatestDivisor(b.X, b.Y) != 1 {
		t.Errorf("BearingOf(%v) is %v, which is no bearing", s, b)
	}
	if d := greatestDivisor(s.X, s.Y); at(b.X*d, b.Y*d) != s {
		t.Errorf("BearingOf(%v) is %v, of which the step is not %d times as great", s, b, d)
	}
	if own, good := impl.BearingOf(b); own != b || !good {
		t.Errorf("BearingOf(%v) is %v, but that of it is %v, %v", s, b, own, good)
	}
	back, fine := impl.BearingBack(b)
	if other, good := impl.BearingOf(opposed(s)); other != back || !good || !fine {
		t.Errorf("BearingOf(%v) is %v, %v, but BearingBack(%v) is %v, %v", opposed(s), other, good, b, back, fine)
	}
}

func TestBearingBack(t *testing.T) {
	for n, wind := range winds {
		if got, fine := impl.BearingBack(wind); got != winds[(n+2)%4] || !fine {
			t.Errorf("BearingBack(%v) is %v, %v", wind, got, fine)
		}
	}
	eachBearing(func(b impl.Point) {
		if got, fine := impl.BearingBack(b); got != opposed(b) || !fine {
			t.Errorf("BearingBack(%v) is %v, %v", b, got, fine)
		}
	})
}

func TestBearingTurnCases(t *testing.T) {
	cases := []struct {
		b    impl.Point
		k    int
		want impl.Point
	}{
		{at(-1, 3), 0, at(-1, 3)},
		{at(-1, 3), 1, at(3, 1)},
		{at(-1, 3), 2, at(1, -3)},
		{at(-1, 3), 3, at(-3, -1)},
		{at(-1, 3), 4, at(-1, 3)},
		{at(-1, 3), 5, at(3, 1)},
		{at(-1, 3), -1, at(-3, -1)},
		{at(-1, 3), -2, at(1, -3)},
		{at(-1, 3), -3, at(3, 1)},
		{at(-1, 3), -4, at(-1, 3)},
		{at(-1, 3), math.MaxInt, at(-3, -1)},
		{at(-1, 3), math.MaxInt - 1, at(1, -3)},
		{at(-1, 3), math.MinInt, at(-1, 3)},
		{at(-1, 3), math.MinInt + 1, at(3, 1)},
		{at(stepMax, 1-stepMax), 1, at(1-stepMax, -stepMax)},
		{at(stepMax, 1-stepMax), math.MinInt + 3, at(stepMax-1, stepMax)},
	}
	for _, c := range cases {
		if got, fine := impl.BearingTurn(c.b, c.k); got != c.want || !fine {
			t.Errorf("BearingTurn(%v, %d) is %v, %v, wanted %v", c.b, c.k, got, fine, c.want)
		}
	}
}

func TestTurnedWinds(t *testing.T) {
	for n, wind := range winds {
		for _, k := range rightAngles {
			want := winds[(n+anglesLeft(k))%4]
			if got, fine := impl.BearingTurn(wind, k); got != want || !fine {
				t.Errorf("BearingTurn(%v, %d) is %v, %v, wanted %v", wind, k, got, fine, want)
			}
		}
	}
}

func TestPromise12(t *testing.T) {
	eachBearing(func(b impl.Point) {
		back, fine := impl.BearingBack(b)
		if twice, good := impl.BearingTurn(b, 2); twice != back || !fine || !good {
			t.Errorf("BearingTurn(%v, 2) is %v, %v, but BearingBack %v, %v", b, twice, good, back, fine)
		}
		for _, k := range rightAngles {
			checkPromise12(t, b, k)
		}
	})
}

func checkPromise12(t *testing.T, b impl.Point, k int) {
	t.Helper()
	turned, fine := impl.BearingTurn(b, k)
	if turned != clockwise(b, anglesLeft(k)) || !fine {
		t.Errorf("BearingTurn(%v, %d) is %v, %v", b, k, turned, fine)
	}
	// The least int is its own opposite, and a multiple of 4.
	if back, good := impl.BearingTurn(turned, -k); back != b || !good {
		t.Errorf("BearingTurn(%v, %d) is %v, %v, wanted %v", turned, -k, back, good, b)
	}
	first, good := impl.BearingQuarter(b)
	second, fair := impl.BearingQuarter(turned)
	if !good || !fair || second != (first+anglesLeft(k))%4 {
		t.Errorf("BearingQuarter(%v) is %d, but %d for it turned by %d right angles", b, first, second, k)
	}
}

func TestBearingQuarterCases(t *testing.T) {
	cases := []struct {
		b    impl.Point
		want int
	}{
		{at(0, 1), 0}, {at(1, stepMax), 0}, {at(1, 1), 0}, {at(stepMax, 1), 0},
		{at(1, 0), 1}, {at(stepMax, -1), 1}, {at(1, -1), 1}, {at(1, -stepMax), 1},
		{at(0, -1), 2}, {at(-1, -stepMax), 2}, {at(-1, -1), 2}, {at(-stepMax, -1), 2},
		{at(-1, 0), 3}, {at(-stepMax, 1), 3}, {at(-1, 1), 3}, {at(-1, stepMax), 3},
	}
	for _, c := range cases {
		if got, fine := impl.BearingQuarter(c.b); got != c.want || !fine {
			t.Errorf("BearingQuarter(%v) is %d, %v, wanted %d", c.b, got, fine, c.want)
		}
	}
	eachBearing(func(b impl.Point) {
		if got, fine := impl.BearingQuarter(b); got != wantedQuarter(b) || !fine {
			t.Errorf("BearingQuarter(%v) is %d, %v, wanted %d", b, got, fine, wantedQuarter(b))
		}
	})
}

// TestBearingLessInOrder goes once round from the north on.
func TestBearingLessInOrder(t *testing.T) {
	list := []impl.Point{
		at(0, 1), at(1, stepMax), at(1, stepMax-1), at(1, 2), at(stepMax-1, stepMax), at(1, 1), at(stepMax, stepMax-1), at(2, 1), at(stepMax-1, 1), at(stepMax, 1),
		at(1, 0), at(stepMax, -1), at(2, -1), at(1, -1), at(1, -2), at(1, -stepMax),
		at(0, -1), at(-1, -stepMax), at(-1, -2), at(-1, -1), at(-2, -1), at(-stepMax, -1),
		at(-1, 0), at(-stepMax, 1), at(-2, 1), at(-1, 1), at(-1, 2), at(-1, stepMax),
	}
	for i, a := range list {
		for j, b := range list {
			if got := impl.BearingLess(a, b); got != (i < j) {
				t.Errorf("BearingLess(%v, %v) is %v", a, b, got)
			}
		}
	}
}

func TestBearingLess(t *testing.T) {
	eachBearingPair(func(a impl.Point, b impl.Point) {
		if got := impl.BearingLess(a, b); got != wantedLess(a, b) {
			t.Errorf("BearingLess(%v, %v) is %v", a, b, got)
		}
	})
}

func TestPromise13(t *testing.T) {
	near := bearingsOf(nearSteps())
	for _, list := range [][]impl.Point{near, bearingsOf(farSteps())} {
		for _, a := range list {
			for _, b := range list {
				if impl.BearingLess(a, b) {
					checkPromise13(t, a, b, list)
				} else if !impl.BearingLess(b, a) && a != b {
					t.Errorf("none of %v and %v is ahead of the other one", a, b)
				}
			}
		}
	}
}

func checkPromise13(t *testing.T, a impl.Point, b impl.Point, others []impl.Point) {
	t.Helper()
	if impl.BearingLess(b, a) || a == b {
		t.Errorf("BearingLess(%v, %v) holds, and for both exchanged", a, b)
	}
	for _, c := range others {
		if !impl.BearingLess(a, c) && !impl.BearingLess(c, b) {
			t.Errorf("BearingLess(%v, %v) holds, but %v is neither behind the first nor ahead of the second one", a, b, c)
		}
	}
	first, good := impl.BearingQuarter(a)
	second, fair := impl.BearingQuarter(b)
	if !good || !fair || first > second {
		t.Errorf("BearingLess(%v, %v) holds, but the quarters are %d and %d", a, b, first, second)
	}
}

func TestBearingTextCases(t *testing.T) {
	cases := []struct {
		b    impl.Point
		want string
	}{
		{at(0, 1), "N"},
		{at(1, 0), "E"},
		{at(0, -1), "S"},
		{at(-1, 0), "W"},
		{at(-1, 3), "N3W1"},
		{at(3, 1), "N1E3"},
		{at(1, -3), "S3E1"},
		{at(-3, -1), "S1W3"},
		{at(1, 1), "N1E1"},
		{at(-1, -1), "S1W1"},
		{at(stepMax, stepMax-1), "N19999E20000"},
		{at(-stepMax, -1), "S1W20000"},
		{at(0, 0), ""},
		{at(0, 2), ""},
		{at(-2, 0), ""},
		{at(-2, 6), ""},
		{at(stepMax+1, 1), ""},
		{at(1, -stepMax-1), ""},
		{at(math.MinInt, 1), ""},
		{at(1, math.MinInt), ""},
		{at(math.MaxInt, 1), ""},
		{at(math.MinInt, math.MaxInt), ""},
	}
	for _, c := range cases {
		if got := impl.BearingText(c.b); got != c.want {
			t.Errorf("BearingText(%v) is %q, wanted %q", c.b, got, c.want)
		}
	}
}

func TestPromise14(t *testing.T) {
	eachBearing(func(b impl.Point) {
		text := impl.BearingText(b)
		if text != wantedBearingText(b) || text == "" {
			t.Errorf("BearingText(%v) is %q, wanted %q", b, text, wantedBearingText(b))
		}
		if text != "E" && text != "W" && !strings.HasPrefix(text, "N") && !strings.HasPrefix(text, "S") {
			t.Errorf("BearingText(%v) is %q", b, text)
		}
		for k := 1; k <= 3; k++ {
			turned, fine := impl.BearingTurn(b, k)
			if other := impl.BearingText(turned); !fine || other == text || other == "" {
				t.Errorf("BearingText(%v) is %q, and %q for it turned by %d right angles", b, text, other, k)
			}
		}
	})
}

func TestBearingTextsDiffer(t *testing.T) {
	seen := map[string]impl.Point{}
	eachBearing(func(b impl.Point) {
		text := impl.BearingText(b)
		if other, found := seen[text]; found && other != b {
			t.Errorf("BearingText is %q for %v and %v", text, other, b)
		}
		seen[text] = b
	})
}

func TestPromise15(t *testing.T) {
	checks := 0
	eachBearingPair(func(a impl.Point, b impl.Point) {
		if !impl.BearingLess(a, b) || a == opposed(b) || !impl.PointValid(a) || !impl.PointValid(b) {
			return
		}
		first, good := impl.BearingQuarter(a)
		second, fair := impl.BearingQuarter(b)
		if !good || !fair {
			t.Fatalf("BearingQuarter fails for %v or %v", a, b)
		}
		if second > first+1 {
			return
		}
		checks++
		if side, fine := impl.PointSide(at(0, 0), b, a); side != 1 || !fine {
			t.Errorf("BearingLess(%v, %v) holds, but PointSide of (0, 0), the second and the first one is %d, %v", a, b, side, fine)
		}
	})
	if checks < 1000 {
		t.Errorf("BearingLess was checked only %d times", checks)
	}
}

func TestInvalidBearings(t *testing.T) {
	for _, bad := range noBearings() {
		if got, fine := impl.BearingBack(bad); got != (impl.Point{}) || fine {
			t.Errorf("BearingBack(%v) is %v, %v", bad, got, fine)
		}
		if got, fine := impl.BearingQuarter(bad); got != 0 || fine {
			t.Errorf("BearingQuarter(%v) is %d, %v", bad, got, fine)
		}
		if got := impl.BearingText(bad); got != "" {
			t.Errorf("BearingText(%v) is %q", bad, got)
		}
		for _, k := range rightAngles {
			if got, fine := impl.BearingTurn(bad, k); got != (impl.Point{}) || fine {
				t.Errorf("BearingTurn(%v, %d) is %v, %v", bad, k, got, fine)
			}
		}
	}
}

func TestInvalidSteps(t *testing.T) {
	for _, bad := range append(invalidSteps(), at(0, 0)) {
		if got, fine := impl.BearingOf(bad); got != (impl.Point{}) || fine {
			t.Errorf("BearingOf(%v) is %v, %v", bad, got, fine)
		}
	}
}

func TestLessOfInvalidBearings(t *testing.T) {
	list := noBearings()
	good := append(bearingsOf(farSteps()), winds...)
	for _, bad := range list {
		for _, b := range good {
			if impl.BearingLess(bad, b) || impl.BearingLess(b, bad) {
				t.Errorf("BearingLess of %v and %v holds", bad, b)
			}
		}
		for _, other := range list {
			if impl.BearingLess(bad, other) {
				t.Errorf("BearingLess(%v, %v) holds", bad, other)
			}
		}
	}
}
