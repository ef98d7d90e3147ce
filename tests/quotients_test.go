package tests

import (
	"math"
	"math/big"
	"strings"
	"testing"

	"loop.example/levellingnet/impl"
)

const dividendMax = 4000000000000000000

var (
	third = impl.Quo{Top: 1, Low: 3}
	half  = impl.Quo{Top: 1, Low: 2}
	one   = impl.Quo{Top: 1, Low: 1}
)

var invalidQuos = []impl.Quo{
	{},
	{Top: 1, Low: 0},
	{Top: 1, Low: -1},
	{Top: -3, Low: -2},
	{Top: 1, Low: -impl.QuoMax},
	{Top: 0, Low: 2},
	{Top: 0, Low: impl.QuoMax},
	{Top: 2, Low: 4},
	{Top: -6, Low: 4},
	{Top: impl.QuoMax, Low: impl.QuoMax},
	{Top: impl.QuoMax, Low: 2},
	{Top: impl.QuoMax + 1, Low: 1},
	{Top: -impl.QuoMax - 1, Low: 1},
	{Top: 1, Low: impl.QuoMax + 1},
	{Top: math.MaxInt, Low: 1},
	{Top: math.MinInt, Low: 1},
	{Top: 1, Low: math.MaxInt},
	{Top: 1, Low: math.MinInt},
	{Top: math.MinInt, Low: math.MinInt},
	{Top: math.MinInt, Low: math.MaxInt},
	{Top: math.MinInt, Low: -1},
	{Top: math.MinInt, Low: 0},
}

// validQuos returns small quotients of all kinds, and those next to the limits.
func validQuos() []impl.Quo {
	tops := []int{0, 1, 2, 3, 4, 5, 6, 7, 12, 30, 31622, 31623, 499999999, 500000000, 999999999, impl.QuoMax}
	lows := []int{1, 2, 3, 4, 5, 6, 9, 12, 31622, 31623, 333333333, 500000000, 999999999, impl.QuoMax}
	var list []impl.Quo
	for _, top := range tops {
		for _, low := range lows {
			if greatestDivisor(top, low) != 1 {
				continue
			}
			list = append(list, impl.Quo{Top: top, Low: low})
			if top != 0 {
				list = append(list, impl.Quo{Top: -top, Low: low})
			}
		}
	}
	return list
}

func greatestDivisor(a int, b int) int {
	return int(new(big.Int).GCD(nil, nil, big.NewInt(int64(a)), big.NewInt(int64(b))).Int64())
}

func opposite(a impl.Quo) impl.Quo {
	return impl.Quo{Top: -a.Top, Low: a.Low}
}

func rational(a impl.Quo) *big.Rat {
	return big.NewRat(int64(a.Top), int64(a.Low))
}

// quoOfRational tells what the document requires for a value that is computed without limits.
func quoOfRational(r *big.Rat) (impl.Quo, bool) {
	limit := big.NewInt(impl.QuoMax)
	if r.Num().CmpAbs(limit) > 0 || r.Denom().Cmp(limit) > 0 {
		return impl.Quo{}, false
	}
	return impl.Quo{Top: int(r.Num().Int64()), Low: int(r.Denom().Int64())}, true
}

// dividends returns arguments of QuoOf from all parts of the int range.
func dividends() []int {
	near := []int{0, 1, 6, 12, 999, 31623, 99999999, 100000000, impl.QuoMax, 1000000007,
		2 * impl.QuoMax, impl.QuoMax * impl.QuoMax, dividendMax / 2, dividendMax - 6, dividendMax}
	var list []int
	for _, n := range near {
		for d := -3; d <= 3; d++ {
			list = append(list, n+d, -n-d)
		}
	}
	return append(list, math.MaxInt, math.MaxInt-1, math.MinInt, math.MinInt+1, math.MinInt+2)
}

func wantedQuoOf(a int, b int) (impl.Quo, bool) {
	if b == 0 || a > dividendMax || a < -dividendMax || b > dividendMax || b < -dividendMax {
		return impl.Quo{}, false
	}
	return quoOfRational(new(big.Rat).SetFrac(big.NewInt(int64(a)), big.NewInt(int64(b))))
}

func TestQuoValid(t *testing.T) {
	for _, a := range validQuos() {
		if !impl.QuoValid(a) {
			t.Errorf("QuoValid(%v) is false", a)
		}
	}
	for _, a := range invalidQuos {
		if impl.QuoValid(a) {
			t.Errorf("QuoValid(%v) is true", a)
		}
	}
}

func TestQuoValidSmall(t *testing.T) {
	for top := -40; top <= 40; top++ {
		for low := -40; low <= 40; low++ {
			want := low >= 1 && greatestDivisor(top, low) == 1
			if got := impl.QuoValid(impl.Quo{Top: top, Low: low}); got != want {
				t.Errorf("QuoValid(%d, %d) is %v", top, low, got)
			}
		}
	}
}

func TestQuoOfCases(t *testing.T) {
	cases := []struct {
		a, b int
		want impl.Quo
		fine bool
	}{
		{6, 4, impl.Quo{Top: 3, Low: 2}, true},
		{-6, 4, impl.Quo{Top: -3, Low: 2}, true},
		{6, -4, impl.Quo{Top: -3, Low: 2}, true},
		{-6, -4, impl.Quo{Top: 3, Low: 2}, true},
		{7, -1, impl.Quo{Top: -7, Low: 1}, true},
		{0, 5, impl.Quo{Top: 0, Low: 1}, true},
		{0, -5, impl.Quo{Top: 0, Low: 1}, true},
		{0, -dividendMax, impl.Quo{Top: 0, Low: 1}, true},
		{5, 0, impl.Quo{}, false},
		{0, 0, impl.Quo{}, false},
		{dividendMax, dividendMax, impl.Quo{Top: 1, Low: 1}, true},
		{dividendMax, -dividendMax, impl.Quo{Top: -1, Low: 1}, true},
		{-dividendMax, 4 * impl.QuoMax, impl.Quo{Top: -impl.QuoMax, Low: 1}, true},
		{4 * impl.QuoMax, -dividendMax, impl.Quo{Top: -1, Low: impl.QuoMax}, true},
		{dividendMax + 1, dividendMax + 1, impl.Quo{}, false},
		{0, dividendMax + 1, impl.Quo{}, false},
		{0, -dividendMax - 1, impl.Quo{}, false},
		{-dividendMax - 1, -dividendMax - 1, impl.Quo{}, false},
		{-dividendMax - 1, dividendMax, impl.Quo{}, false},
		{math.MinInt, math.MinInt, impl.Quo{}, false},
		{math.MaxInt, math.MaxInt, impl.Quo{}, false},
		{math.MinInt, -1, impl.Quo{}, false},
		{0, math.MinInt, impl.Quo{}, false},
		{impl.QuoMax, 1, impl.Quo{Top: impl.QuoMax, Low: 1}, true},
		{-impl.QuoMax, 1, impl.Quo{Top: -impl.QuoMax, Low: 1}, true},
		{impl.QuoMax, -1, impl.Quo{Top: -impl.QuoMax, Low: 1}, true},
		{1, impl.QuoMax, impl.Quo{Top: 1, Low: impl.QuoMax}, true},
		{1, -impl.QuoMax, impl.Quo{Top: -1, Low: impl.QuoMax}, true},
		{impl.QuoMax + 1, 1, impl.Quo{}, false},
		{-impl.QuoMax - 1, 1, impl.Quo{}, false},
		{1, impl.QuoMax + 1, impl.Quo{}, false},
		{1, -impl.QuoMax - 1, impl.Quo{}, false},
		{2*impl.QuoMax + 2, 2, impl.Quo{}, false},
		{2 * impl.QuoMax, 2, impl.Quo{Top: impl.QuoMax, Low: 1}, true},
		{3, 3 * impl.QuoMax, impl.Quo{Top: 1, Low: impl.QuoMax}, true},
	}
	for _, c := range cases {
		if got, fine := impl.QuoOf(c.a, c.b); got != c.want || fine != c.fine {
			t.Errorf("QuoOf(%d, %d) is %v, %v, wanted %v, %v", c.a, c.b, got, fine, c.want, c.fine)
		}
	}
}

func TestPromise1(t *testing.T) {
	successes := 0
	for _, a := range dividends() {
		for _, b := range dividends() {
			q, fine := impl.QuoOf(a, b)
			if want, good := wantedQuoOf(a, b); q != want || fine != good {
				t.Fatalf("QuoOf(%d, %d) is %v, %v, wanted %v, %v", a, b, q, fine, want, good)
			}
			if !fine {
				continue
			}
			successes++
			checkPromise1(t, a, b, q)
		}
	}
	if successes < 1000 {
		t.Errorf("QuoOf succeeded only %d times", successes)
	}
}

func checkPromise1(t *testing.T, a int, b int, q impl.Quo) {
	t.Helper()
	if !impl.QuoValid(q) {
		t.Errorf("QuoOf(%d, %d) is the invalid %v", a, b, q)
	}
	if a >= 100000000 || a <= -100000000 || b >= 100000000 || b <= -100000000 {
		return
	}
	if q.Top*b != a*q.Low {
		t.Errorf("QuoOf(%d, %d) has another value: %v", a, b, q)
	}
	if same, fine := impl.QuoOf(a*-6, b*-6); same != q || !fine {
		t.Errorf("QuoOf(%d, %d) is %v, but %v, %v for both multiplied by -6", a, b, q, same, fine)
	}
}

func TestQuoAddCases(t *testing.T) {
	most := impl.Quo{Top: impl.QuoMax, Low: 1}
	least := impl.Quo{Top: 1, Low: impl.QuoMax}
	cases := []struct {
		a, b, want impl.Quo
		fine       bool
	}{
		{half, half, one, true},
		{half, third, impl.Quo{Top: 5, Low: 6}, true},
		{half, opposite(half), impl.Quo{Top: 0, Low: 1}, true},
		{most, one, impl.Quo{}, false},
		{most, opposite(one), impl.Quo{Top: impl.QuoMax - 1, Low: 1}, true},
		{opposite(most), opposite(one), impl.Quo{}, false},
		{most, opposite(most), impl.Quo{Top: 0, Low: 1}, true},
		{most, least, impl.Quo{}, false},
		{least, third, impl.Quo{}, false},
		{least, least, impl.Quo{Top: 1, Low: impl.QuoMax / 2}, true},
		{half, impl.Quo{Top: 2, Low: 4}, impl.Quo{}, false},
	}
	for _, c := range cases {
		if got, fine := impl.QuoAdd(c.a, c.b); got != c.want || fine != c.fine {
			t.Errorf("QuoAdd(%v, %v) is %v, %v, wanted %v, %v", c.a, c.b, got, fine, c.want, c.fine)
		}
		if got, fine := impl.QuoTake(c.a, opposite(c.b)); got != c.want || fine != c.fine {
			t.Errorf("QuoTake(%v, %v) is %v, %v, wanted %v, %v", c.a, opposite(c.b), got, fine, c.want, c.fine)
		}
	}
}

func TestPromise2(t *testing.T) {
	list := validQuos()
	for _, a := range list {
		for _, b := range list {
			sum, fine := impl.QuoAdd(a, b)
			if want, good := quoOfRational(new(big.Rat).Add(rational(a), rational(b))); sum != want || fine != good {
				t.Fatalf("QuoAdd(%v, %v) is %v, %v, wanted %v, %v", a, b, sum, fine, want, good)
			}
			rest, could := impl.QuoTake(a, b)
			if want, good := quoOfRational(new(big.Rat).Sub(rational(a), rational(b))); rest != want || could != good {
				t.Fatalf("QuoTake(%v, %v) is %v, %v, wanted %v, %v", a, b, rest, could, want, good)
			}
			if fine {
				checkPromise2(t, a, b, sum)
			}
		}
	}
}

func checkPromise2(t *testing.T, a impl.Quo, b impl.Quo, sum impl.Quo) {
	t.Helper()
	if other, fine := impl.QuoAdd(b, a); other != sum || !fine {
		t.Errorf("%v and %v exchanged have the sum %v, %v", a, b, other, fine)
	}
	if rest, fine := impl.QuoTake(sum, a); rest != b || !fine {
		t.Errorf("QuoTake(%v, %v) is %v, %v, wanted %v", sum, a, rest, fine, b)
	}
	if rest, fine := impl.QuoTake(sum, b); rest != a || !fine {
		t.Errorf("QuoTake(%v, %v) is %v, %v, wanted %v", sum, b, rest, fine, a)
	}
	left, fineLeft := impl.QuoAdd(sum, third)
	inner, fineInner := impl.QuoAdd(b, third)
	right, fineRight := impl.QuoAdd(a, inner)
	if fineLeft && fineInner && fineRight && left != right {
		t.Errorf("%v and %v do not associate with 1/3: %v and %v", a, b, left, right)
	}
}

func TestQuoTimesCases(t *testing.T) {
	most := impl.Quo{Top: impl.QuoMax, Low: 1}
	least := impl.Quo{Top: 1, Low: impl.QuoMax}
	cases := []struct {
		a, b, want impl.Quo
		fine       bool
	}{
		{half, third, impl.Quo{Top: 1, Low: 6}, true},
		{impl.Quo{Top: -2, Low: 3}, impl.Quo{Top: -3, Low: 4}, half, true},
		{impl.Quo{Top: 0, Low: 1}, opposite(most), impl.Quo{Top: 0, Low: 1}, true},
		{most, least, one, true},
		{most, one, most, true},
		{most, opposite(one), opposite(most), true},
		{most, most, impl.Quo{}, false},
		{opposite(most), most, impl.Quo{}, false},
		{least, least, impl.Quo{}, false},
		{least, half, impl.Quo{}, false},
		{half, impl.Quo{Top: 0, Low: 2}, impl.Quo{}, false},
	}
	for _, c := range cases {
		if got, fine := impl.QuoTimes(c.a, c.b); got != c.want || fine != c.fine {
			t.Errorf("QuoTimes(%v, %v) is %v, %v, wanted %v, %v", c.a, c.b, got, fine, c.want, c.fine)
		}
	}
}

func TestPromise3(t *testing.T) {
	list := validQuos()
	for _, a := range list {
		for _, b := range list {
			product, fine := impl.QuoTimes(a, b)
			if want, good := quoOfRational(new(big.Rat).Mul(rational(a), rational(b))); product != want || fine != good {
				t.Fatalf("QuoTimes(%v, %v) is %v, %v, wanted %v, %v", a, b, product, fine, want, good)
			}
			if fine {
				checkPromise3(t, a, b, product)
			}
		}
	}
}

func checkPromise3(t *testing.T, a impl.Quo, b impl.Quo, product impl.Quo) {
	t.Helper()
	if other, fine := impl.QuoTimes(b, a); other != product || !fine {
		t.Errorf("%v and %v exchanged have the product %v, %v", a, b, other, fine)
	}
	if (product.Top == 0) != (a.Top == 0 || b.Top == 0) {
		t.Errorf("QuoTimes(%v, %v) is %v", a, b, product)
	}
	more, fineMore := impl.QuoAdd(b, half)
	left, fineLeft := impl.QuoTimes(a, more)
	part, finePart := impl.QuoTimes(a, half)
	right, fineRight := impl.QuoAdd(product, part)
	if fineMore && fineLeft && finePart && fineRight && left != right {
		t.Errorf("%v does not distribute over %v and 1/2: %v and %v", a, b, left, right)
	}
}

func TestPromise4(t *testing.T) {
	list := validQuos()
	for _, a := range list {
		for _, b := range list {
			order, fine := impl.QuoOrder(a, b)
			if want := rational(a).Cmp(rational(b)); order != want || !fine {
				t.Fatalf("QuoOrder(%v, %v) is %d, %v, wanted %d", a, b, order, fine, want)
			}
			if other, good := impl.QuoOrder(b, a); other != -order || !good {
				t.Errorf("QuoOrder(%v, %v) is %d, %v, but %d for both exchanged", b, a, other, good, order)
			}
			if (order == 0) != (a == b) {
				t.Errorf("QuoOrder(%v, %v) is %d", a, b, order)
			}
			if rest, good := impl.QuoTake(a, b); good && sign(rest.Top) != order {
				t.Errorf("QuoOrder(%v, %v) is %d, but QuoTake %v", a, b, order, rest)
			}
		}
	}
}

func sign(n int) int {
	switch {
	case n < 0:
		return -1
	case n > 0:
		return 1
	}
	return 0
}

func TestQuoTextCases(t *testing.T) {
	cases := []struct {
		a    impl.Quo
		want string
	}{
		{impl.Quo{Top: 0, Low: 1}, "0"},
		{one, "1"},
		{impl.Quo{Top: -17, Low: 1}, "-17"},
		{half, "1/2"},
		{impl.Quo{Top: -3, Low: 2}, "-3/2"},
		{impl.Quo{Top: impl.QuoMax, Low: 1}, "1000000000"},
		{impl.Quo{Top: -impl.QuoMax, Low: 999999999}, "-1000000000/999999999"},
		{impl.Quo{Top: 1, Low: impl.QuoMax}, "1/1000000000"},
	}
	for _, c := range cases {
		if got := impl.QuoText(c.a); got != c.want {
			t.Errorf("QuoText(%v) is %q, wanted %q", c.a, got, c.want)
		}
	}
}

func TestPromise5(t *testing.T) {
	for _, a := range validQuos() {
		text := impl.QuoText(a)
		if text == "" {
			t.Errorf("QuoText(%v) is empty", a)
		}
		if strings.Contains(text, "/") != (a.Low != 1) {
			t.Errorf("QuoText(%v) is %q", a, text)
		}
		next, fine := impl.QuoAdd(a, one)
		if fine && impl.QuoText(next) == text {
			t.Errorf("%v and %v have the text %q", a, next, text)
		}
		if back := opposite(a); back != a && impl.QuoText(back) == text {
			t.Errorf("%v and %v have the text %q", a, back, text)
		}
	}
}

func TestInvalidQuos(t *testing.T) {
	for _, bad := range invalidQuos {
		if got := impl.QuoText(bad); got != "" {
			t.Errorf("QuoText(%v) is %q", bad, got)
		}
		for _, good := range validQuos() {
			checkInvalid(t, bad, good)
			checkInvalid(t, good, bad)
		}
		for _, other := range invalidQuos {
			checkInvalid(t, bad, other)
		}
	}
}

func checkInvalid(t *testing.T, a impl.Quo, b impl.Quo) {
	t.Helper()
	if got, fine := impl.QuoAdd(a, b); got != (impl.Quo{}) || fine {
		t.Errorf("QuoAdd(%v, %v) is %v, %v", a, b, got, fine)
	}
	if got, fine := impl.QuoTake(a, b); got != (impl.Quo{}) || fine {
		t.Errorf("QuoTake(%v, %v) is %v, %v", a, b, got, fine)
	}
	if got, fine := impl.QuoTimes(a, b); got != (impl.Quo{}) || fine {
		t.Errorf("QuoTimes(%v, %v) is %v, %v", a, b, got, fine)
	}
	if got, fine := impl.QuoOrder(a, b); got != 0 || fine {
		t.Errorf("QuoOrder(%v, %v) is %d, %v", a, b, got, fine)
	}
}
