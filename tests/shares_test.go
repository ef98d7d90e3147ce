package tests

import (
	"math"
	"math/big"
	"math/rand/v2"
	"slices"
	"testing"

	"loop.example/levellingnet/impl"
)

const (
	amountMax     = 10000000
	givenShareMax = 20000000
)

// badAmounts are none, the nearest ones among them.
func badAmounts() []int {
	return append([]int{amountMax + 1, -amountMax - 1, 2 * amountMax, -2 * amountMax}, badNumbers...)
}

// badShares are no shares that ShareFar takes, the nearest ones among them.
func badShares() []int {
	return append([]int{givenShareMax + 1, -givenShareMax - 1, 2 * givenShareMax, -2 * givenShareMax}, badNumbers...)
}

func sumOf(list []int) int {
	sum := 0
	for _, number := range list {
		sum += number
	}
	return sum
}

// listsOf returns all lists of as many numbers in a range.
func listsOf(size int, least int, most int) [][]int {
	if size == 0 {
		return [][]int{nil}
	}
	var lists [][]int
	for _, list := range listsOf(size-1, least, most) {
		for number := least; number <= most; number++ {
			lists = append(lists, append(slices.Clone(list), number))
		}
	}
	return lists
}

// smallLengths are all of up to 3 lengths of up to 4.
func smallLengths() [][]int {
	lists := slices.Concat(listsOf(1, 0, 4), listsOf(2, 0, 4), listsOf(3, 0, 4))
	return slices.DeleteFunc(lists, allZero)
}

// edgeLengths are lengths at the limits.
func edgeLengths() [][]int {
	most, size := impl.ShareMax, impl.SharesMax
	lists := [][]int{
		{most}, {most, most}, {most, 0}, {0, most}, {1, most}, {most, 1}, {most - 1, most, most - 1}, {0, 0, 0, 7}, {7, 0, 0, 0}, {0, 1, 0, 1, 0},
		slices.Repeat([]int{most}, size), slices.Repeat([]int{1}, size), slices.Repeat([]int{0, 1}, size/2), slices.Repeat([]int{1, most}, size/2),
		append(make([]int, size-1), 1), append([]int{most}, make([]int, size-1)...), append(slices.Repeat([]int{most}, size-1), 0),
		append(slices.Repeat([]int{1}, size-1), most), append([]int{most}, slices.Repeat([]int{1}, size-1)...), firstIndexes(size),
		{6, 5, 4, 3, 2, 1}, {1, 2, 3, 4, 5, 6}, {3, 3, 1}, {1, 1, 1, 1, 1, 1, 1}, {2, 1, 2, 1, 2, 1}, {9973, 9967, 9949},
	}
	for n := 4; n < size; n++ {
		lists = append(lists, slices.Repeat([]int{5}, n))
	}
	return lists
}

// mixedLengths are of all numbers of lengths, always the same ones. Some have many equal lengths and lengths of 0.
func mixedLengths() [][]int {
	source := rand.New(rand.NewPCG(14, 33))
	var lists [][]int
	for size := 1; size <= impl.SharesMax; size++ {
		for _, most := range []int{2, 9, 100, impl.ShareMax, impl.ShareMax} {
			list := make([]int, size)
			for i := range list {
				list[i] = source.IntN(most + 1)
			}
			list[source.IntN(size)] = most
			lists = append(lists, list)
		}
	}
	return lists
}

func allLengths() [][]int {
	return slices.Concat(smallLengths(), edgeLengths(), mixedLengths())
}

// amountsFor returns small amounts, such next to multiples of the sum of all lengths, and such next to the limits, all with both signs.
func amountsFor(sum int) []int {
	greatest := amountMax - amountMax%sum
	positive := []int{
		1, 2, 3, 4, 5, 7, 10, 19, 20, 21, 100, 12345, sum - 1, sum, sum + 1, 2*sum - 1, 3 * sum, 5*sum + 2, 6543210,
		greatest - 1, greatest, greatest + 1, amountMax / 2, amountMax - sum, amountMax - sum + 1, amountMax - 1, amountMax,
	}
	list := []int{0}
	for _, amount := range positive {
		if amount <= amountMax {
			list = append(list, amount, -amount)
		}
	}
	return list
}

func eachAmount(call func(lengths []int, amount int)) {
	for _, lengths := range allLengths() {
		for _, amount := range amountsFor(sumOf(lengths)) {
			call(lengths, amount)
		}
	}
}

// invalidLengths are too few, too many, too long, negative, or all 0. The sums of some wrap around to valid ones.
func invalidLengths() [][]int {
	most, size := impl.ShareMax, impl.SharesMax
	lists := [][]int{
		nil, {}, {0}, {0, 0}, make([]int, 3), make([]int, size), {-1}, {-1, 2}, {2, -1}, {0, -1, 0}, {-1, 1}, {1, -1, 0}, {-5, -5}, {-most, most}, {3, 3, -1},
		{most + 1}, {1, most + 1}, {most + 1, 1}, {most + 1, 0}, {most, most, most + 1}, {2 * most}, {-most - 1}, append(slices.Repeat([]int{1}, size-1), -1),
		append(slices.Repeat([]int{most}, size-1), most+1), append(slices.Repeat([]int{1}, size-1), most+1),
	}
	for _, many := range []int{size + 1, size + 2, 2 * size, 1000, 100000} {
		lists = append(lists, make([]int, many), slices.Repeat([]int{1}, many), slices.Repeat([]int{most}, many), append([]int{1}, make([]int, many-1)...), append(make([]int, many-1), most))
	}
	for _, bad := range badNumbers {
		lists = append(lists, []int{bad}, []int{bad, 1}, []int{1, bad}, []int{bad, -bad, 5}, []int{bad, bad}, []int{3, 0 - bad, bad}, append(slices.Repeat([]int{2}, size-1), bad))
	}
	return append(lists, slices.Repeat([]int{1 << 62}, 4), slices.Repeat([]int{1<<62 + 1}, 4), []int{math.MinInt, math.MinInt}, []int{math.MaxInt, 2})
}

// exactShares returns the shares as they are ahead of rounding.
func exactShares(lengths []int, amount int) []*big.Rat {
	var list []*big.Rat
	for _, length := range lengths {
		list = append(list, big.NewRat(int64(amount)*int64(length), int64(sumOf(lengths))))
	}
	return list
}

func floorOf(r *big.Rat) int {
	// This division leaves no negative remainder, and the denominator is positive.
	return int(new(big.Int).Div(r.Num(), r.Denom()).Int64())
}

// wantedShares sorts the indexes of all lengths by their remainders.
func wantedShares(lengths []int, amount int) []int {
	exact, indexes := exactShares(lengths, amount), firstIndexes(len(lengths))
	var shares []int
	for _, r := range exact {
		shares = append(shares, floorOf(r))
		r.Sub(r, big.NewRat(int64(floorOf(r)), 1))
	}
	slices.SortStableFunc(indexes, func(i int, j int) int { return exact[j].Cmp(exact[i]) })
	for _, i := range indexes[:amount-sumOf(shares)] {
		shares[i]++
	}
	return shares
}

// wantedOk holds for shares that are each rounded down or up.
func wantedOk(lengths []int, amount int, shares []int) bool {
	if len(shares) != len(lengths) || sumOf(shares) != amount {
		return false
	}
	for i, r := range exactShares(lengths, amount) {
		if shares[i] != floorOf(r) && shares[i] != -floorOf(r.Neg(r)) {
			return false
		}
	}
	return true
}

// wantedFar is for as many shares as lengths, all in range.
func wantedFar(lengths []int, amount int, shares []int) int {
	far := new(big.Rat)
	for i, r := range exactShares(lengths, amount) {
		r.Sub(r, big.NewRat(int64(shares[i]), 1))
		far.Add(far, r.Abs(r))
	}
	far.Mul(far, big.NewRat(int64(sumOf(lengths)), 1))
	return int(far.Num().Int64())
}

// withShare returns shares with one of them changed.
func withShare(shares []int, i int, by int) []int {
	list := slices.Clone(shares)
	list[i] += by
	return list
}

func TestShareOfCases(t *testing.T) {
	most, size := impl.ShareMax, impl.SharesMax
	cases := []struct {
		lengths []int
		amount  int
		want    []int
	}{
		{[]int{3, 3, 1}, 10, []int{4, 4, 2}}, {[]int{3, 3, 1}, -10, []int{-4, -4, -2}}, {[]int{3, 3, 1}, 8, []int{4, 3, 1}}, {[]int{3, 3, 1}, -8, []int{-3, -4, -1}},
		{[]int{1, 1, 1}, 4, []int{2, 1, 1}}, {[]int{1, 1, 1}, 5, []int{2, 2, 1}}, {[]int{1, 1, 1}, -4, []int{-1, -1, -2}}, {[]int{1, 1, 1}, -5, []int{-1, -2, -2}},
		{[]int{1, 1, 1}, 3, []int{1, 1, 1}}, {[]int{1, 1, 1}, -3, []int{-1, -1, -1}}, {[]int{1, 1, 1}, 1, []int{1, 0, 0}}, {[]int{1, 1, 1}, -1, []int{0, 0, -1}},
		{[]int{1, 1, 1}, 0, []int{0, 0, 0}}, {[]int{0, 5, 3}, 0, []int{0, 0, 0}}, {[]int{1}, 0, []int{0}},
		{[]int{1, 2}, 3, []int{1, 2}}, {[]int{1, 2}, 4, []int{1, 3}}, {[]int{1, 2}, 5, []int{2, 3}}, {[]int{1, 2}, -4, []int{-1, -3}}, {[]int{1, 2}, -5, []int{-2, -3}}, {[]int{2, 1}, -1, []int{-1, 0}},
		{[]int{1, 2}, 1, []int{0, 1}}, {[]int{1, 2}, -1, []int{0, -1}}, {[]int{1, 3}, 2, []int{1, 1}}, {[]int{3, 1}, 2, []int{2, 0}}, {[]int{1, 3}, -2, []int{0, -2}}, {[]int{3, 1}, -2, []int{-1, -1}},
		{[]int{0, 1, 0, 1, 0}, 3, []int{0, 2, 0, 1, 0}}, {[]int{0, 1, 0, 1, 0}, -3, []int{0, -1, 0, -2, 0}}, {[]int{0, 0, 9}, 7, []int{0, 0, 7}}, {[]int{9, 0, 0}, -7, []int{-7, 0, 0}},
		{[]int{1}, 7, []int{7}}, {[]int{most}, -7, []int{-7}}, {[]int{5}, amountMax, []int{amountMax}}, {[]int{most}, -amountMax, []int{-amountMax}},
		{[]int{1, 1}, amountMax, []int{amountMax / 2, amountMax / 2}}, {[]int{1, 1}, -amountMax + 1, []int{-amountMax/2 + 1, -amountMax / 2}}, {[]int{1, 1}, amountMax - 1, []int{amountMax / 2, amountMax/2 - 1}},
		{[]int{most, 1}, amountMax, []int{9999000, 1000}}, {[]int{1, most}, -amountMax, []int{-1000, -9999000}}, {[]int{most, 1}, most, []int{9999, 1}}, {[]int{most, 1}, 5000, []int{5000, 0}},
		{slices.Repeat([]int{most}, size), -amountMax, slices.Repeat([]int{-amountMax / 20}, size)},
		{slices.Repeat([]int{1}, size), 7, append(slices.Repeat([]int{1}, 7), make([]int, 13)...)},
		{slices.Repeat([]int{1}, size), -7, append(make([]int, 13), slices.Repeat([]int{-1}, 7)...)},
		{append(make([]int, size-1), 1), 9, append(make([]int, size-1), 9)},
		{[]int{1, 2, 3, 4}, 5, []int{1, 1, 1, 2}}, {[]int{4, 3, 2, 1}, 5, []int{2, 2, 1, 0}}, {[]int{1, 2, 3, 4}, -5, []int{0, -1, -2, -2}}, {[]int{5, 6, 7}, 10, []int{3, 3, 4}},
	}
	for _, c := range cases {
		if got, fine := impl.ShareOf(c.lengths, c.amount); !slices.Equal(got, c.want) || !fine {
			t.Errorf("ShareOf(%v, %d) is %v, %v, wanted %v", c.lengths, c.amount, got, fine, c.want)
		}
	}
}

func TestShareOf(t *testing.T) {
	calls := 0
	eachAmount(func(lengths []int, amount int) {
		calls++
		if got, fine := impl.ShareOf(lengths, amount); !slices.Equal(got, wantedShares(lengths, amount)) || !fine {
			t.Errorf("ShareOf(%v, %d) is %v, %v, wanted %v", lengths, amount, got, fine, wantedShares(lengths, amount))
		}
	})
	if calls < 10000 {
		t.Errorf("only %d calls were checked", calls)
	}
}

func TestPromise33(t *testing.T) {
	eachAmount(func(lengths []int, amount int) {
		shares, fine := impl.ShareOf(lengths, amount)
		if !fine || len(shares) != len(lengths) || !impl.ShareOk(lengths, amount, shares) {
			t.Fatalf("ShareOf(%v, %d) is %v, %v", lengths, amount, shares, fine)
		}
		for i, length := range lengths {
			if length == 0 && shares[i] != 0 {
				t.Errorf("ShareOf(%v, %d) is %v: wrong at %d", lengths, amount, shares, i)
			}
			for j, other := range lengths {
				if amount >= 0 && length > other && shares[i] < shares[j] {
					t.Errorf("ShareOf(%v, %d) is %v: wrong at %d and %d", lengths, amount, shares, i, j)
				}
			}
		}
	})
	for _, lengths := range allLengths() {
		checkMultiples(t, lengths)
	}
}

// checkMultiples shares multiples of the sum of all lengths, the greatest one among them.
func checkMultiples(t *testing.T, lengths []int) {
	t.Helper()
	most := amountMax / sumOf(lengths)
	for _, times := range []int{0, 1, -1, 2, -2, 3, -7, 10, most, -most} {
		var want []int
		for _, length := range lengths {
			want = append(want, times*length)
		}
		amount := times * sumOf(lengths)
		if got, fine := impl.ShareOf(lengths, amount); fine != between(-amountMax, amount, amountMax) || fine && !slices.Equal(got, want) {
			t.Errorf("ShareOf(%v, %d) is %v, %v, wanted %v", lengths, amount, got, fine, want)
		}
	}
}

func TestPromise34(t *testing.T) {
	moves := 0
	eachAmount(func(lengths []int, amount int) {
		shares, _ := impl.ShareOf(lengths, amount)
		far := impl.ShareFar(lengths, amount, shares)
		for i := range shares {
			for j := range shares {
				if i == j {
					continue
				}
				moves++
				other := withShare(withShare(shares, i, -1), j, 1)
				if got := impl.ShareFar(lengths, amount, other); far < 0 || got < far {
					t.Errorf("ShareFar(%v, %d, ...) is %d for %v, but %d for %v", lengths, amount, far, shares, got, other)
				}
			}
		}
	})
	if moves < 100000 {
		t.Errorf("only %d moves were checked", moves)
	}
}

func TestPromise35(t *testing.T) {
	grown, beyond := 0, 0
	eachAmount(func(lengths []int, amount int) {
		shares, _ := impl.ShareOf(lengths, amount)
		more := amount + sumOf(lengths)
		got, fine := impl.ShareOf(lengths, more)
		if more > amountMax {
			beyond++
			if len(got) != 0 || fine {
				t.Errorf("ShareOf(%v, %d) is %v, %v", lengths, more, got, fine)
			}
			return
		}
		grown++
		for i, length := range lengths {
			shares[i] += length
		}
		if !slices.Equal(got, shares) || !fine {
			t.Errorf("ShareOf(%v, %d) is %v, %v, wanted %v", lengths, more, got, fine, shares)
		}
	})
	if grown < 10000 || beyond < 500 {
		t.Errorf("only %d amounts were made greater, and %d in vain", grown, beyond)
	}
}

func TestShareOkCases(t *testing.T) {
	cases := []struct {
		lengths []int
		amount  int
		shares  []int
		want    bool
	}{
		{[]int{1, 1}, 4, []int{2, 2}, true}, {[]int{1, 1}, 4, []int{3, 1}, false}, {[]int{1, 1}, 4, []int{1, 3}, false}, {[]int{1, 1}, 4, []int{2, 3}, false}, {[]int{1, 1}, 4, []int{2, 1}, false},
		{[]int{1, 1}, 3, []int{2, 1}, true}, {[]int{1, 1}, 3, []int{1, 2}, true}, {[]int{1, 1}, 3, []int{0, 3}, false}, {[]int{1, 1}, 3, []int{1, 1}, false}, {[]int{1, 1}, 3, []int{2, 2}, false},
		{[]int{1, 1, 1}, -4, []int{-1, -1, -2}, true}, {[]int{1, 1, 1}, -4, []int{-2, -1, -1}, true}, {[]int{1, 1, 1}, -4, []int{-2, -2, 0}, false}, {[]int{1, 1, 1}, -4, []int{1, 1, 2}, false}, {[]int{1, 1, 1}, -4, []int{-1, -1, -1}, false},
		{[]int{1, 1}, -3, []int{-1, -2}, true}, {[]int{1, 1}, -3, []int{-2, -1}, true}, {[]int{1, 1}, -3, []int{-3, 0}, false}, {[]int{1, 1}, 3, []int{-1, -2}, false},
		{[]int{0, 3}, 5, []int{0, 5}, true}, {[]int{0, 3}, 5, []int{1, 4}, false}, {[]int{0, 3}, 5, []int{-1, 6}, false}, {[]int{3, 0}, -5, []int{-5, 0}, true},
		{[]int{1, 2, 3}, 0, []int{0, 0, 0}, true}, {[]int{1, 2, 3}, 0, []int{1, -1, 0}, false}, {[]int{1, 2, 3}, 0, []int{0, 1, -1}, false},
		{[]int{1, 9999}, 1, []int{0, 1}, true}, {[]int{1, 9999}, 1, []int{1, 0}, true}, {[]int{1, 9999}, 1, []int{2, -1}, false},
		{[]int{7}, 5, []int{5}, true}, {[]int{7}, 5, []int{4}, false}, {[]int{7}, 5, []int{6}, false}, {[]int{7}, 5, nil, false}, {[]int{7}, 0, nil, false}, {[]int{7}, 0, []int{}, false}, {[]int{7}, 5, []int{5, 0}, false},
		{[]int{1, 1}, 4, []int{2, 2, 0}, false}, {[]int{1, 1}, 4, []int{4}, false}, {[]int{1, 0}, 4, []int{4}, false}, {[]int{1, 0}, 4, []int{4, 0}, true}, {[]int{1, 1, 1}, 4, []int{2, 2}, false},
		{[]int{1}, amountMax, []int{amountMax}, true}, {[]int{1}, -amountMax, []int{-amountMax}, true}, {[]int{1}, amountMax + 1, []int{amountMax + 1}, false}, {[]int{1}, -amountMax - 1, []int{-amountMax - 1}, false},
		{[]int{1}, givenShareMax, []int{givenShareMax}, false}, {[]int{1, 1}, 0, []int{givenShareMax, -givenShareMax}, false},
		{[]int{0}, 0, []int{0}, false}, {[]int{0, 0}, 0, []int{0, 0}, false}, {nil, 0, nil, false}, {[]int{}, 0, []int{}, false},
		{[]int{-1}, 5, []int{5}, false}, {[]int{-1, 3}, 4, []int{-2, 6}, false}, {[]int{impl.ShareMax + 1}, 4, []int{4}, false}, {[]int{impl.ShareMax}, 4, []int{4}, true},
	}
	for _, c := range cases {
		if got := impl.ShareOk(c.lengths, c.amount, c.shares); got != c.want {
			t.Errorf("ShareOk(%v, %d, %v) is %v", c.lengths, c.amount, c.shares, got)
		}
	}
}

// nearShares returns lists around the shares of an amount: all for few lengths, and otherwise those with one or two changes.
func nearShares(lengths []int, amount int) [][]int {
	shares := wantedShares(lengths, amount)
	lists := [][]int{shares}
	if len(lengths) <= 3 {
		for _, changes := range listsOf(len(lengths), -2, 2) {
			for i := range changes {
				changes[i] += shares[i]
			}
			lists = append(lists, changes)
		}
		return lists
	}
	for i := range shares {
		lists = append(lists, withShare(shares, i, 1), withShare(shares, i, -1))
		for j := range i {
			lists = append(lists, withShare(withShare(shares, i, 1), j, -1), withShare(withShare(shares, i, -1), j, 1))
		}
	}
	return lists
}

func TestPromise36(t *testing.T) {
	hold, fail := 0, 0
	for _, lengths := range allLengths() {
		sum := sumOf(lengths)
		for _, amount := range []int{0, 1, -1, 4, -7, 10, sum + 1, -sum, amountMax, 1 - amountMax} {
			best, _ := impl.ShareOf(lengths, amount)
			least := impl.ShareFar(lengths, amount, best)
			for _, shares := range nearShares(lengths, amount) {
				holds := impl.ShareOk(lengths, amount, shares)
				if holds != wantedOk(lengths, amount, shares) {
					t.Fatalf("ShareOk(%v, %d, %v) is %v", lengths, amount, shares, holds)
				}
				if !holds {
					fail++
					continue
				}
				hold++
				if far := impl.ShareFar(lengths, amount, shares); sumOf(shares) != amount || far < least || far >= len(lengths)*sum {
					t.Errorf("ShareFar(%v, %d, %v) is %d, and %d for %v", lengths, amount, shares, far, least, best)
				}
			}
		}
	}
	if hold < 10000 || fail < 50000 {
		t.Errorf("ShareOk held only %d times, and %d times it did not", hold, fail)
	}
}

func TestShareFarCases(t *testing.T) {
	most, far := impl.ShareMax, givenShareMax
	cases := []struct {
		lengths []int
		amount  int
		shares  []int
		want    int
	}{
		{[]int{1, 1}, 4, []int{2, 2}, 0}, {[]int{1, 1}, 4, []int{3, 1}, 4}, {[]int{1, 1}, 4, []int{3, 3}, 4}, {[]int{1, 1}, 3, []int{2, 1}, 2}, {[]int{1, 1}, 3, []int{1, 1}, 2}, {[]int{1, 1}, -3, []int{-1, -2}, 2},
		{[]int{3, 3, 1}, 10, []int{4, 4, 2}, 8}, {[]int{3, 3, 1}, 10, []int{5, 4, 1}, 10}, {[]int{3, 3, 1}, -10, []int{-4, -4, -2}, 8}, {[]int{3, 3, 1}, -10, []int{4, 4, 2}, 140},
		{[]int{0, 3}, 5, []int{0, 5}, 0}, {[]int{0, 3}, 5, []int{1, 4}, 6}, {[]int{0, 3}, 5, []int{-1, 5}, 3}, {[]int{1, 2}, 0, []int{0, 0}, 0}, {[]int{1, 2}, 0, []int{7, -7}, 42},
		{[]int{7}, 5, []int{5}, 0}, {[]int{7}, 5, []int{-5}, 70}, {[]int{7}, 5, []int{9}, 28},
		{[]int{1}, 0, []int{far}, far}, {[]int{1}, 0, []int{-far}, far}, {[]int{1}, 0, []int{far + 1}, -1}, {[]int{1}, 0, []int{-far - 1}, -1}, {[]int{1}, amountMax, []int{-far}, far + amountMax}, {[]int{1}, -amountMax, []int{far}, far + amountMax},
		{[]int{1, 1}, 0, []int{far, -far}, 4 * far}, {[]int{1, 1}, 0, []int{far, -far - 1}, -1}, {[]int{1, 1}, 0, []int{far + 1, -far}, -1}, {[]int{0, 1}, 0, []int{far, far}, 2 * far},
		{slices.Repeat([]int{most}, impl.SharesMax), -amountMax, slices.Repeat([]int{far}, impl.SharesMax), 82000000000000}, {[]int{most}, amountMax, []int{-far}, 300000000000},
		{[]int{1, 1}, amountMax, []int{amountMax, 0}, 2 * amountMax}, {[]int{1, 1}, amountMax + 1, []int{amountMax, 0}, -1}, {[]int{1, 1}, -amountMax - 1, []int{-amountMax, 0}, -1},
		{[]int{1, 1}, 4, []int{2}, -1}, {[]int{1, 1}, 4, []int{2, 2, 0}, -1}, {[]int{1, 1}, 4, nil, -1}, {[]int{1}, 0, []int{}, -1}, {[]int{1, 0}, 4, []int{4}, -1},
		{[]int{0, 0}, 4, []int{2, 2}, -1}, {[]int{0}, 0, []int{0}, -1}, {nil, 0, nil, -1}, {[]int{}, 0, []int{}, -1}, {[]int{-1, 1}, 0, []int{0, 0}, -1}, {[]int{-1, 3}, 2, []int{-1, 3}, -1}, {[]int{most + 1}, 2, []int{2}, -1},
	}
	for _, c := range cases {
		if got := impl.ShareFar(c.lengths, c.amount, c.shares); got != c.want {
			t.Errorf("ShareFar(%v, %d, %v) is %d, wanted %d", c.lengths, c.amount, c.shares, got, c.want)
		}
	}
}

// farShares returns lists of as many shares, all in range, some of them at both ends.
func farShares(size int) [][]int {
	lists := [][]int{make([]int, size)}
	for _, pair := range [][]int{{givenShareMax, -givenShareMax}, {1 - givenShareMax, givenShareMax}, {givenShareMax - 1, 0}, {-5, 7}} {
		lists = append(lists, slices.Repeat(pair, size)[:size], append(slices.Repeat(pair[:1], size-1), pair[1]))
	}
	return lists
}

func TestPromise37(t *testing.T) {
	exact, others, beyond := 0, 0, 0
	for _, lengths := range allLengths() {
		sum := sumOf(lengths)
		for _, amount := range []int{0, 3, -5, sum, -2 * sum, amountMax, -amountMax} {
			for _, shares := range append(farShares(len(lengths)), wantedShares(lengths, amount)) {
				far := impl.ShareFar(lengths, amount, shares)
				if far != wantedFar(lengths, amount, shares) {
					t.Fatalf("ShareFar(%v, %d, %v) is %d, wanted %d", lengths, amount, shares, far, wantedFar(lengths, amount, shares))
				}
				if far == 0 {
					exact++
				} else {
					others++
				}
				if isExact := exactlyShared(lengths, amount, shares); (far == 0) != isExact {
					t.Errorf("ShareFar(%v, %d, %v) is %d, and the shares are exact: %v", lengths, amount, shares, far, isExact)
				}
				beyond += checkPromise37(t, lengths, amount, shares, far)
			}
		}
	}
	if exact < 500 || others < 10000 || beyond < 5000 {
		t.Errorf("only %d exact and %d other lists of shares and %d shares beyond the limit were checked", exact, others, beyond)
	}
}

func exactlyShared(lengths []int, amount int, shares []int) bool {
	for i, length := range lengths {
		if shares[i]*sumOf(lengths) != amount*length {
			return false
		}
	}
	return true
}

// checkPromise37 makes each share 1 greater, and returns how many of them are out of range then.
func checkPromise37(t *testing.T, lengths []int, amount int, shares []int, far int) int {
	t.Helper()
	beyond := 0
	for i := range shares {
		other := withShare(shares, i, 1)
		got := impl.ShareFar(lengths, amount, other)
		if other[i] > givenShareMax {
			beyond++
			if got != -1 {
				t.Errorf("ShareFar(%v, %d, %v) is %d", lengths, amount, other, got)
			}
			continue
		}
		if got < 0 || !between(-sumOf(lengths), got-far, sumOf(lengths)) {
			t.Errorf("ShareFar(%v, %d, ...) is %d for %v, but %d for %v", lengths, amount, far, shares, got, other)
		}
	}
	return beyond
}

func TestShareRisesCases(t *testing.T) {
	most, long, size := impl.RiseMax, impl.ShareMax, impl.SharesMax
	cases := []struct {
		lengths []int
		rises   []int
		want    []int
	}{
		{[]int{1, 2}, []int{5, -8}, []int{6, -6}}, {[]int{1, 2}, []int{-5, 8}, []int{-6, 6}}, {[]int{1, 1, 1}, []int{5, 3, -4}, []int{4, 2, -6}}, {[]int{1, 1, 1}, []int{-5, -3, 4}, []int{-3, -2, 5}},
		{[]int{1, 2, 3}, []int{4, 4, -8}, []int{4, 4, -8}}, {[]int{5, 0}, []int{0, 0}, []int{0, 0}}, {[]int{0, 5}, []int{7, 2}, []int{7, -7}}, {[]int{5, 0}, []int{7, 2}, []int{-2, 2}},
		{[]int{1}, []int{9}, []int{0}}, {[]int{long}, []int{-9}, []int{0}}, {[]int{1}, []int{0}, []int{0}}, {[]int{1}, []int{most}, []int{0}}, {[]int{1}, []int{-most}, []int{0}},
		{[]int{1, 1}, []int{most, most}, []int{0, 0}}, {[]int{1, 1}, []int{most, -most}, []int{most, -most}}, {[]int{1, 0}, []int{most, most}, []int{-most, most}}, {[]int{0, 1}, []int{-most, -most}, []int{-most, most}},
		{[]int{1, 0, 0}, []int{most, most, most}, []int{-2 * most, most, most}}, {[]int{3, 1}, []int{-most, -most}, []int{most / 2, -most / 2}},
		{slices.Repeat([]int{long}, size), slices.Repeat([]int{most}, size), make([]int, size)}, {slices.Repeat([]int{1}, size), slices.Repeat([]int{-most}, size), make([]int, size)},
		{append([]int{1}, make([]int, size-1)...), slices.Repeat([]int{most}, size), append([]int{-19 * most}, slices.Repeat([]int{most}, size-1)...)},
	}
	for _, c := range cases {
		if got, fine := impl.ShareRises(c.lengths, c.rises); !slices.Equal(got, c.want) || !fine {
			t.Errorf("ShareRises(%v, %v) is %v, %v, wanted %v", c.lengths, c.rises, got, fine, c.want)
		}
	}
}

// risesFor returns lists of as many rises, some of them at the limits, and some with the sum 0.
func risesFor(size int) [][]int {
	most := impl.RiseMax
	lists := [][]int{
		make([]int, size), slices.Repeat([]int{most}, size), slices.Repeat([]int{-most}, size), slices.Repeat([]int{most, -most}, size)[:size],
		slices.Repeat([]int{3, -4, 1}, size)[:size], append(slices.Repeat([]int{0}, size-1), 5), append([]int{-1}, make([]int, size-1)...), slices.Repeat([]int{-7, 5, most, 12}, size)[:size],
	}
	source := rand.New(rand.NewPCG(14, 38))
	for _, bound := range []int{9, 1000, most} {
		list := make([]int, size)
		for i := range list {
			list[i] = source.IntN(2*bound+1) - bound
		}
		level := slices.Clone(list)
		for i := range size / 2 {
			level[size-1-i] = -level[i]
		}
		if size%2 == 1 {
			level[size/2] = 0
		}
		lists = append(lists, list, level)
	}
	return lists
}

func wantedRises(lengths []int, rises []int) []int {
	list := wantedShares(lengths, -sumOf(rises))
	for i, rise := range rises {
		list[i] += rise
	}
	return list
}

func inRiseRange(rises []int) bool {
	return !slices.ContainsFunc(rises, func(rise int) bool { return !between(-impl.RiseMax, rise, impl.RiseMax) })
}

// ringOf returns a run for each rise, from each node to the next one and from the last one to the first one.
func ringOf(rises []int) []impl.Run {
	var runs []impl.Run
	for node, rise := range rises {
		runs = append(runs, run(node, (node+1)%len(rises), rise, 1+node%impl.WeightMax))
	}
	return runs
}

func TestPromise38(t *testing.T) {
	level, rings, none := 0, 0, 0
	for _, lengths := range allLengths() {
		for _, rises := range risesFor(len(lengths)) {
			got, fine := impl.ShareRises(lengths, rises)
			if !fine || !slices.Equal(got, wantedRises(lengths, rises)) || sumOf(got) != 0 {
				t.Fatalf("ShareRises(%v, %v) is %v, %v, wanted %v", lengths, rises, got, fine, wantedRises(lengths, rises))
			}
			if sumOf(rises) == 0 {
				level++
				if !slices.Equal(got, rises) {
					t.Errorf("ShareRises(%v, %v) is %v", lengths, rises, got)
				}
			}
			isNet := between(2, len(got), impl.NodesMax) && inRiseRange(got)
			if isNet {
				rings++
			} else {
				none++
			}
			if impl.LoopCloses(len(got), ringOf(got)) != isNet {
				t.Errorf("ShareRises(%v, %v) is %v, but a ring of them closes: %v", lengths, rises, got, !isNet)
			}
		}
	}
	if level < 500 || rings < 1000 || none < 1000 {
		t.Errorf("only %d lists with the sum 0, %d rings that are nets and %d that are none were checked", level, rings, none)
	}
}

func TestPromise39(t *testing.T) {
	nets, none := 0, 0
	for _, lengths := range allLengths() {
		if len(lengths) != 3 {
			continue
		}
		for _, rises := range risesFor(3) {
			got, fine := impl.ShareRises(lengths, rises)
			if !fine || len(got) != 3 {
				t.Fatalf("ShareRises(%v, %v) is %v, %v", lengths, rises, got, fine)
			}
			if inRiseRange(got) {
				nets++
			} else {
				none++
			}
			for _, hanging := range []int{0, 17, impl.RiseMax, -impl.RiseMax} {
				checkPromise39(t, got, hanging)
			}
		}
	}
	if nets < 1000 || none < 50 {
		t.Errorf("only %d triangles that are nets and %d that are none were checked", nets, none)
	}
}

// checkPromise39 hangs a further node on each node of the triangle.
func checkPromise39(t *testing.T, rises []int, hanging int) {
	t.Helper()
	for node := range 3 {
		runs := append(ringOf(rises), run(node, 3, hanging, 1))
		if !inRiseRange(rises) {
			if impl.LoopCloses(4, runs) {
				t.Errorf("LoopCloses(4, %v) holds", runs)
			}
			continue
		}
		tree, _ := impl.TreeFirst(4, runs)
		heights, fine := impl.TreeHeights(4, runs, tree)
		if !fine || !impl.LoopCloses(4, runs) || !impl.NetFits(4, runs, heights) {
			t.Fatalf("the net of the runs %v does not close, or the heights %v, %v of its first tree do not fit", runs, heights, fine)
		}
		if heights[3]-heights[node] != hanging {
			t.Errorf("the heights %v change the rise %d", heights, hanging)
		}
	}
}

func checkNoShares(t *testing.T, lengths []int, amount int, shares []int) {
	t.Helper()
	if got, fine := impl.ShareOf(lengths, amount); len(got) != 0 || fine {
		t.Errorf("ShareOf is %v, %v for %d lengths, %v ahead, and %d", got, fine, len(lengths), lengths[:min(len(lengths), 12)], amount)
	}
	checkWrongShares(t, lengths, amount, shares)
}

func checkWrongShares(t *testing.T, lengths []int, amount int, shares []int) {
	t.Helper()
	if far := impl.ShareFar(lengths, amount, shares); far != -1 || impl.ShareOk(lengths, amount, shares) {
		t.Errorf("ShareFar is %d, or ShareOk holds, for %d lengths, %v ahead, %d, and the shares %v", far, len(lengths), lengths[:min(len(lengths), 12)], amount, shares[:min(len(shares), 12)])
	}
}

func checkNoRises(t *testing.T, lengths []int, rises []int) {
	t.Helper()
	if got, fine := impl.ShareRises(lengths, rises); len(got) != 0 || fine {
		t.Errorf("ShareRises is %v, %v for %d lengths, %v ahead, and %d rises, %v ahead", got, fine, len(lengths), lengths[:min(len(lengths), 12)], len(rises), rises[:min(len(rises), 12)])
	}
}

func TestInvalidLengths(t *testing.T) {
	for _, lengths := range invalidLengths() {
		size := len(lengths)
		for _, amount := range append([]int{0, 1, -1, 4, -7, sumOf(lengths), amountMax, -amountMax}, badAmounts()...) {
			for _, shares := range [][]int{nil, make([]int, size), lengths, append(make([]int, max(size-1, 0)), amount), {0}, {amount}, slices.Repeat([]int{amount}, impl.SharesMax)} {
				checkNoShares(t, lengths, amount, shares)
			}
		}
		for _, rises := range [][]int{nil, {0}, {1, -1}, make([]int, size), lengths, slices.Repeat([]int{1}, size), slices.Repeat([]int{-impl.RiseMax}, size), make([]int, size+1)} {
			checkNoRises(t, lengths, rises)
		}
	}
}

func TestInvalidAmounts(t *testing.T) {
	for _, lengths := range slices.Concat(edgeLengths(), mixedLengths(), [][]int{{1}, {4}, {1, 1}, {1, 1, 1, 1}}) {
		size := len(lengths)
		for _, amount := range badAmounts() {
			for _, shares := range [][]int{make([]int, size), append(make([]int, size-1), amount), append([]int{amount}, make([]int, size-1)...), slices.Repeat([]int{givenShareMax}, size), slices.Repeat([]int{amount / size}, size)} {
				checkNoShares(t, lengths, amount, shares)
			}
		}
	}
}

// withBad returns a list with another number at an index, and, if there is room, one in which the next number makes up for it.
func withBad(list []int, i int, bad int) [][]int {
	changed := slices.Clone(list)
	changed[i] = bad
	lists := [][]int{changed}
	if len(list) > 1 {
		lists = append(lists, withShare(changed, (i+1)%len(list), list[i]-bad))
	}
	return lists
}

// TestWrongShares gives other numbers of shares, and shares beyond their range. The products and sums of some wrap around to those that are wanted.
func TestWrongShares(t *testing.T) {
	for _, lengths := range slices.Concat(edgeLengths(), mixedLengths(), [][]int{{1}, {4}, {1, 1}, {2, 2}, {1, 1, 1, 1}, {2, 0, 1, 1}}) {
		for _, amount := range []int{0, 8, -8, sumOf(lengths), amountMax, -amountMax} {
			good := wantedShares(lengths, amount)
			for _, shares := range [][]int{nil, {}, good[:len(good)-1], good[1:], append(slices.Clone(good), 0), append([]int{0}, good...), slices.Concat(good, good), slices.Repeat([]int{0}, 1000)} {
				checkWrongShares(t, lengths, amount, shares)
			}
			for i := range good {
				for _, bad := range badShares() {
					for _, shares := range withBad(good, i, bad) {
						checkWrongShares(t, lengths, amount, shares)
					}
				}
			}
			for _, by := range []int{1 << 62, -1 << 62, math.MinInt, 1 << 61, 1 << 60, 1 << 32} {
				checkWrongShares(t, lengths, amount, raised(good, by))
			}
		}
	}
}

// TestWrongRises gives other numbers of rises, and rises beyond their range. The sums of some wrap around to amounts.
func TestWrongRises(t *testing.T) {
	most := impl.RiseMax
	for _, lengths := range slices.Concat(edgeLengths(), mixedLengths(), [][]int{{1}, {4}, {1, 1}, {1, 1, 1, 1}}) {
		size := len(lengths)
		for _, good := range risesFor(size) {
			for _, rises := range [][]int{nil, {}, good[1:], good[:size-1], append(slices.Clone(good), 0), append([]int{0}, good...), slices.Concat(good, good), make([]int, 1000)} {
				checkNoRises(t, lengths, rises)
			}
			for i := range good {
				for _, bad := range append([]int{most + 1, -most - 1, 2 * most, -2 * most, amountMax, -amountMax}, badNumbers...) {
					for _, rises := range withBad(good, i, bad) {
						checkNoRises(t, lengths, rises)
					}
				}
			}
			for _, by := range []int{1 << 62, math.MinInt, 1 << 32} {
				checkNoRises(t, lengths, raised(good, by))
			}
		}
	}
}

// TestShareArgumentsStay gives lists with room behind their ends, which must stay as well.
func TestShareArgumentsStay(t *testing.T) {
	for _, lengths := range slices.Concat(allLengths(), [][]int{{0, 0}, {1, -1}}) {
		size := len(lengths)
		for _, rises := range risesFor(size) {
			room, listRoom := append(slices.Clone(lengths), 77, 78), append(slices.Clone(rises), 79, 80)
			roomAhead, listAhead := slices.Clone(room), slices.Clone(listRoom)
			given, list := room[:size], listRoom[:size]
			impl.ShareOk(given, sumOf(rises), list)
			impl.ShareFar(given, sumOf(rises), list)
			shares, _ := impl.ShareOf(given, sumOf(rises))
			spoil(shares, -9)
			level, _ := impl.ShareRises(given, list)
			spoil(level, -9)
			if !slices.Equal(room, roomAhead) || !slices.Equal(listRoom, listAhead) {
				t.Fatalf("an argument is changed: %v, %v", room, listRoom)
			}
		}
	}
}

// TestShareResultsAreNew has rises that are left as they are among its arguments.
func TestShareResultsAreNew(t *testing.T) {
	for _, lengths := range allLengths() {
		for _, rises := range risesFor(len(lengths)) {
			checkNew(t, "ShareOf", func() []int { list, _ := impl.ShareOf(lengths, sumOf(rises)); return list })
			checkNew(t, "ShareRises", func() []int { list, _ := impl.ShareRises(lengths, rises); return list })
		}
	}
}
