package impl

import (
	"cmp"
	"strconv"
)

// QuoMax is the greatest absolute value of the parts of a quotient.
const QuoMax = 1000000000

// dividendMax is the greatest absolute value of the arguments of QuoOf. Sums and products of the parts of two valid quotients stay below it.
const dividendMax = 4000000000000000000

// Quo is a quotient in lowest terms.
type Quo struct {
	Top int
	Low int
}

// number is the value of a valid quotient: whole or broken.
type number interface {
	parts() (top int, low int)
}

type whole int

type broken struct {
	top int
	low int
}

func (w whole) parts() (int, int) {
	return int(w), 1
}

func (b broken) parts() (int, int) {
	return b.top, b.low
}

func numberOf(a Quo) (number, bool) {
	if !QuoValid(a) {
		return nil, false
	}
	if a.Low == 1 {
		return whole(a.Top), true
	}
	return broken{top: a.Top, low: a.Low}, true
}

func numbersOf(a Quo, b Quo) (number, number, bool) {
	x, fineX := numberOf(a)
	y, fineY := numberOf(b)
	return x, y, fineX && fineY
}

func within(n int, most int) bool {
	return -most <= n && n <= most
}

// commonDivisor returns the greatest common divisor, which is not negative. No argument may be the least int, which has no opposite.
func commonDivisor(a int, b int) int {
	for b != 0 {
		a, b = b, a%b
	}
	if a < 0 {
		return -a
	}
	return a
}

// QuoValid reports whether a quotient is valid.
func QuoValid(a Quo) bool {
	if a.Low < 1 || a.Low > QuoMax || !within(a.Top, QuoMax) {
		return false
	}
	return commonDivisor(a.Top, a.Low) == 1
}

// QuoOf returns the valid quotient with the value of a divided by b, and true.
func QuoOf(a int, b int) (Quo, bool) {
	if b == 0 || !within(a, dividendMax) || !within(b, dividendMax) {
		return Quo{}, false
	}
	d := commonDivisor(a, b)
	if b < 0 {
		// Low is positive, so the sign of the divisor goes to Top.
		d = -d
	}
	q := Quo{Top: a / d, Low: b / d}
	if !QuoValid(q) {
		return Quo{}, false
	}
	return q, true
}

// QuoAdd returns the sum of two quotients, and true.
func QuoAdd(a Quo, b Quo) (Quo, bool) {
	x, y, fine := numbersOf(a, b)
	if !fine {
		return Quo{}, false
	}
	topX, lowX := x.parts()
	topY, lowY := y.parts()
	return QuoOf(topX*lowY+topY*lowX, lowX*lowY)
}

// QuoTake returns the first quotient minus the second one, and true.
func QuoTake(a Quo, b Quo) (Quo, bool) {
	// The opposite of an invalid quotient is invalid, even for the least int, so QuoAdd rejects it.
	return QuoAdd(a, Quo{Top: -b.Top, Low: b.Low})
}

// QuoTimes returns the product of two quotients, and true.
func QuoTimes(a Quo, b Quo) (Quo, bool) {
	x, y, fine := numbersOf(a, b)
	if !fine {
		return Quo{}, false
	}
	topX, lowX := x.parts()
	topY, lowY := y.parts()
	return QuoOf(topX*topY, lowX*lowY)
}

// QuoOrder returns -1, 0 or 1 if the first quotient is less than, equal to or greater than the second one, and true.
func QuoOrder(a Quo, b Quo) (int, bool) {
	x, y, fine := numbersOf(a, b)
	if !fine {
		return 0, false
	}
	topX, lowX := x.parts()
	topY, lowY := y.parts()
	return cmp.Compare(topX*lowY, topY*lowX), true
}

// QuoText returns Top, and, if Low is not 1, a slash and Low, or "" if the quotient is invalid.
func QuoText(a Quo) string {
	x, fine := numberOf(a)
	if !fine {
		return ""
	}
	switch v := x.(type) {
	case whole:
		return strconv.Itoa(int(v))
	case broken:
		return strconv.Itoa(v.top) + "/" + strconv.Itoa(v.low)
	}
	return ""
}
