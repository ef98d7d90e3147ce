package tests

import (
	"math"
	"math/rand/v2"
	"slices"
	"testing"

	"loop.example/levellingnet/impl"
)

const columnMax = impl.EntryMax * impl.EntryMax

// badEntries are no entries, the nearest ones among them.
func badEntries() []int {
	most := impl.EntryMax
	return append([]int{most + 1, -most - 1, 2 * most, -2 * most, columnMax, -columnMax}, badNumbers...)
}

// badColumnNumbers are no numbers to which a matrix is applied, the nearest ones among them.
func badColumnNumbers() []int {
	return append([]int{columnMax + 1, -columnMax - 1, 2 * columnMax, -2 * columnMax}, badNumbers...)
}

// square returns rows with the numbers that a function gives for the indexes of row and column.
func square(order int, number func(i int, j int) int) [][]int {
	var m [][]int
	for i := range order {
		var row []int
		for j := range order {
			row = append(row, number(i, j))
		}
		m = append(m, row)
	}
	return m
}

func identity(order int) [][]int {
	return square(order, func(i int, j int) int {
		if i == j {
			return 1
		}
		return 0
	})
}

func copyOf(m [][]int) [][]int {
	var rows [][]int
	for _, row := range m {
		rows = append(rows, slices.Clone(row))
	}
	return rows
}

func sameRows(a [][]int, b [][]int) bool {
	return slices.EqualFunc(a, b, slices.Equal[[]int])
}

func withEntry(m [][]int, i int, j int, number int) [][]int {
	rows := copyOf(m)
	rows[i][j] = number
	return rows
}

func withRow(m [][]int, i int, row []int) [][]int {
	rows := copyOf(m)
	rows[i] = slices.Clone(row)
	return rows
}

// combined returns the sum of two rows, the second one taken as many times.
func combined(row []int, other []int, times int) []int {
	list := slices.Clone(row)
	for j, number := range other {
		list[j] += times * number
	}
	return list
}

// permutations returns all orders of as many indexes.
func permutations(size int) [][]int {
	if size == 0 {
		return [][]int{nil}
	}
	var lists [][]int
	for _, list := range permutations(size - 1) {
		for i := range size {
			lists = append(lists, slices.Insert(slices.Clone(list), i, size-1))
		}
	}
	return lists
}

// inversions returns how many pairs of a list are not in order.
func inversions(list []int) int {
	count := 0
	for i, number := range list {
		for _, other := range list[:i] {
			if other > number {
				count++
			}
		}
	}
	return count
}

// wantedDet takes one entry of each row and column in all ways. For entries in range all sums fit an int.
func wantedDet(m [][]int) int {
	sum := 0
	for _, columns := range permutationsOf[len(m)] {
		product := 1 - 2*(inversions(columns)%2)
		for i, j := range columns {
			product *= m[i][j]
		}
		sum += product
	}
	return sum
}

// permutationsOf holds the permutations of all orders, so that they are not made for each matrix.
var permutationsOf = [][][]int{permutations(0), permutations(1), permutations(2), permutations(3), permutations(4), permutations(5)}

func wantedTurn(m [][]int) [][]int {
	return square(len(m), func(i int, j int) int { return m[j][i] })
}

func wantedApply(m [][]int, list []int) []int {
	var sums []int
	for _, row := range m {
		sum := 0
		for j, entry := range row {
			sum += entry * list[j]
		}
		sums = append(sums, sum)
	}
	return sums
}

func wantedTimes(a [][]int, b [][]int) [][]int {
	return square(len(a), func(i int, j int) int {
		sum := 0
		for k := range b {
			sum += a[i][k] * b[k][j]
		}
		return sum
	})
}

func wantedColumnDets(m [][]int, list []int) []int {
	var dets []int
	for c := range m {
		dets = append(dets, wantedDet(square(len(m), func(i int, j int) int {
			if j == c {
				return list[i]
			}
			return m[i][j]
		})))
	}
	return dets
}

// entriesInRange is for as many rows as each one has numbers.
func entriesInRange(m [][]int) bool {
	for _, row := range m {
		for _, number := range row {
			if !between(-impl.EntryMax, number, impl.EntryMax) {
				return false
			}
		}
	}
	return true
}

func listInRange(list []int, most int) bool {
	return !slices.ContainsFunc(list, func(number int) bool { return !between(-most, number, most) })
}

// smallMatrices are all matrices of one row with entries of up to 9, of two rows with such of up to 2, and of three rows with such of up to 1.
func smallMatrices() [][][]int {
	var list [][][]int
	for order, most := range []int{0, 9, 2, 1} {
		if order == 0 {
			continue
		}
		for _, numbers := range listsOf(order*order, -most, most) {
			list = append(list, square(order, func(i int, j int) int { return numbers[i*order+j] }))
		}
	}
	return list
}

// patterns are functions for square: limits, zeros, zeros on the diagonal, triangles, equal rows and others.
func patterns(order int) []func(i int, j int) int {
	most := impl.EntryMax
	choose := func(holds bool, yes int, no int) int {
		if holds {
			return yes
		}
		return no
	}
	fibonacci := []int{1, 2, 3, 5, 8, 13, 21, 34, 55, 89, 144, 233, 377, 610, 987}
	list := []func(i int, j int) int{
		func(i int, j int) int { return choose((i+j)%2 == 0, most, -most) },
		func(i int, j int) int { return i*order + j },
		func(i int, j int) int { return most - i*order - j },
		func(i int, j int) int { return most - i*j },
		func(i int, j int) int { return most - (i*i+2*j*j+i*j)%7 },
		func(i int, j int) int { return fibonacci[(i*order+j)%len(fibonacci)] },
		func(i int, j int) int { return fibonacci[len(fibonacci)-1-(i*order+j)%len(fibonacci)] },
		func(i int, j int) int { return choose(i == 0, 0, most-i*j) },
		func(i int, j int) int { return choose(j == 0, 0, most-i*j*j) },
		func(i int, j int) int { return choose(i == order-1, 0, 3+i*i+j) },
		func(i int, j int) int { return choose(j == order-1, 0, 3+i*i+j) },
		func(i int, j int) int { return choose((i+1)%order == j, i+2, 0) },
		func(i int, j int) int { return choose(i%2 == 0, 3*j-4, j*j-5) },
		func(i int, j int) int { return choose(i&j == 1 || i&j == 2, -most, most) },
	}
	for _, number := range []int{1, -1, 7, most, -most, most - 1} {
		list = append(list,
			func(i int, j int) int { return number },
			func(i int, j int) int { return choose(i == j, number, 0) },
			func(i int, j int) int { return choose(i+j == order-1, number, 0) },
			func(i int, j int) int { return choose(i == j, 0, number) },
			func(i int, j int) int { return choose(i == j, -number, number) },
			func(i int, j int) int { return choose(i <= j, number, 0) },
			func(i int, j int) int { return choose(i >= j, number, 0) },
			func(i int, j int) int { return choose(i <= j, 0, number) },
			func(i int, j int) int { return choose(i == j, number, choose(i < j, 1, 0)) },
			func(i int, j int) int { return choose(i == 0, number, i*j) },
			func(i int, j int) int { return choose(j == order-1, number, i*i-3*j) },
			func(i int, j int) int { return choose(i == order-1 && j == 0, number, choose(i+1 == j, 1, 0)) },
		)
	}
	return list
}

// edgeMatrices have the zeros among them, all orders of the rows of a diagonal, and rows that are sums or multiples of others.
func edgeMatrices() [][][]int {
	var list [][][]int
	for order := 1; order <= impl.OrderMax; order++ {
		list = append(list, square(order, func(i int, j int) int { return 0 }))
		for _, number := range patterns(order) {
			list = append(list, square(order, number))
		}
		for _, columns := range permutations(order) {
			list = append(list, square(order, func(i int, j int) int {
				if columns[i] == j {
					return i + 2
				}
				return 0
			}))
		}
	}
	return list
}

// mixedMatrices are of all orders, always the same ones. Some have many zeros, and some have a row that depends on others.
func mixedMatrices() [][][]int {
	source := rand.New(rand.NewPCG(21, 40))
	var list [][][]int
	for order := 1; order <= impl.OrderMax; order++ {
		for _, most := range []int{1, 2, 9, 100, 400, impl.EntryMax, impl.EntryMax, impl.EntryMax} {
			for range 6 {
				m := square(order, func(i int, j int) int { return source.IntN(2*most+1) - most })
				thin := square(order, func(i int, j int) int { return m[i][j] * source.IntN(2) })
				list = append(list, m, thin)
				if order > 1 {
					list = append(list, dependent(source, m)...)
				}
			}
		}
	}
	return append(list, steepMatrices(source)...)
}

// steepMatrices have nearly the greatest determinants that there are. A float holds few of them exactly.
func steepMatrices(source *rand.Rand) [][][]int {
	var list [][][]int
	for order := 1; order <= impl.OrderMax; order++ {
		for range 12 {
			list = append(list, square(order, func(i int, j int) int { return (1 - 2*identity(order)[i][j]) * (impl.EntryMax - source.IntN(4)) }))
		}
	}
	return list
}

// dependent returns matrices with the determinant 0: one row is another one, a multiple of it, or a sum or difference of two others, if there are three.
func dependent(source *rand.Rand, m [][]int) [][][]int {
	order := source.Perm(len(m))
	i, j, k := order[0], order[1], order[len(order)-1]
	var list [][][]int
	for _, row := range [][]int{m[j], combined(m[j], m[k], 1), combined(m[j], m[k], -1), combined(m[j], m[j], 2), combined(m[j], m[j], -2)} {
		if listInRange(row, impl.EntryMax) {
			list = append(list, withRow(m, i, row))
		}
	}
	return list
}

func allMatrices() [][][]int {
	return slices.Concat(smallMatrices(), edgeMatrices(), mixedMatrices())
}

// largerMatrices are no small ones.
func largerMatrices() [][][]int {
	return append(edgeMatrices(), mixedMatrices()...)
}

// columnsFor returns lists of as many numbers, some at the limits.
func columnsFor(order int, most int) [][]int {
	lists := [][]int{make([]int, order), slices.Repeat([]int{most}, order), slices.Repeat([]int{-most}, order), slices.Repeat([]int{most, -most}, order), {3, -4, 1, 0, 7}, {-1, 0, 2, 5, -3}}
	for i := range lists {
		lists[i] = lists[i][:order]
	}
	for i := range order {
		unit := make([]int, order)
		unit[i] = 1
		edge := slices.Repeat([]int{2}, order)
		edge[i] = most
		lists = append(lists, unit, edge)
	}
	source := rand.New(rand.NewPCG(21, 43))
	for _, bound := range []int{5, 100, most} {
		list := make([]int, order)
		for i := range list {
			list[i] = source.IntN(2*bound+1) - bound
		}
		lists = append(lists, list)
	}
	return lists
}

// noMatrices have no rows or too many, rows of other lengths, or numbers that are no entries.
func noMatrices() [][][]int {
	lists := [][][]int{
		nil, {}, {nil}, {{}}, {nil, nil}, {{}, {}}, {{1, 2}}, {{1}, {2}}, {{1}, {}}, {{}, {1}}, {{1}, nil}, {nil, {1}}, {{1, 2}, {3}}, {{1}, {2, 3}}, {{1, 2}, nil}, {nil, {1, 2}}, {{1, 2}, {}}, {{}, {1, 2}},
		{{1, 2, 3}, {4}}, {{1, 2}, {3, 4, 5}}, {{1, 2, 3}, {4, 5, 6}}, {{1, 2}, {3, 4}, {5, 6}}, {{1, 2, 3}, {4, 5, 6}, {7, 8}}, {{1, 2, 3, 4}, {5, 6}, {7, 8, 9}}, {{1, 2}, {3, 4}, {}}, {{1, 2}, {3, 4}, nil},
		{{1, 2, 3, 4}}, {{1, 2}, {3, 4, 5, 6}}, make([][]int, 3), make([][]int, impl.OrderMax), make([][]int, impl.OrderMax+1), make([][]int, 100000), {make([]int, 100000)}, {{1, 2}, make([]int, 100000)},
	}
	for _, order := range []int{impl.OrderMax + 1, impl.OrderMax + 2, 2 * impl.OrderMax, 50} {
		lists = append(lists, identity(order), square(order, func(i int, j int) int { return 0 }), square(order, func(i int, j int) int { return i - 2*j }))
	}
	for order := 1; order <= impl.OrderMax; order++ {
		m := square(order, func(i int, j int) int { return 3*i - j + 1 })
		for i := range m {
			lists = append(lists, withRow(m, i, nil), withRow(m, i, m[i][1:]), withRow(m, i, append(slices.Clone(m[i]), 0)), slices.Delete(copyOf(m), i, i+1), append(copyOf(m), m[i]))
			for j := range m {
				for _, bad := range badEntries() {
					lists = append(lists, withEntry(m, i, j, bad))
				}
			}
		}
	}
	for _, number := range []int{1 << 32, 1 << 62, math.MinInt} {
		lists = append(lists, [][]int{{number}}, [][]int{{number, 1}, {1, number}}, [][]int{{number, 0}, {0, number}}, square(3, func(i int, j int) int { return number }))
	}
	return lists
}

func TestMatValid(t *testing.T) {
	for _, m := range allMatrices() {
		if !impl.MatValid(m) {
			t.Errorf("MatValid(%v) does not hold", m)
		}
	}
	for number := -2 * impl.EntryMax; number <= 2*impl.EntryMax; number++ {
		want := between(-impl.EntryMax, number, impl.EntryMax)
		for _, m := range [][][]int{{{number}}, {{0, number}, {0, 0}}, {{1, 2}, {number, 3}}} {
			if impl.MatValid(m) != want {
				t.Errorf("MatValid(%v) is %v", m, !want)
			}
		}
	}
	// All numbers of rows and all lengths of three of them.
	for rows := range 8 {
		for _, lengths := range listsOf(min(rows, 3), 0, 6) {
			m := make([][]int, rows)
			want := between(1, rows, impl.OrderMax)
			for i := range m {
				m[i] = make([]int, rows)
				if i < len(lengths) {
					m[i] = make([]int, lengths[i])
				}
				want = want && len(m[i]) == rows
			}
			if impl.MatValid(m) != want {
				t.Errorf("MatValid is %v for %d rows, of the lengths %v ahead", !want, rows, lengths)
			}
		}
	}
}

func TestMatDetCases(t *testing.T) {
	most := impl.EntryMax
	cases := []struct {
		m    [][]int
		want int
	}{
		{[][]int{{0}}, 0}, {[][]int{{1}}, 1}, {[][]int{{-1}}, -1}, {[][]int{{most}}, most}, {[][]int{{-most}}, -most},
		{[][]int{{2, 1}, {5, 4}}, 3}, {[][]int{{5, 4}, {2, 1}}, -3}, {[][]int{{0, 1}, {1, 0}}, -1}, {[][]int{{0, 0}, {0, 0}}, 0}, {[][]int{{0, 2}, {0, 3}}, 0}, {[][]int{{2, 4}, {3, 6}}, 0}, {[][]int{{0, -2}, {3, 0}}, 6},
		{[][]int{{most, most}, {-most, most}}, 2 * columnMax}, {[][]int{{most, most}, {most, -most}}, -2 * columnMax}, {[][]int{{most, most}, {most, most}}, 0}, {[][]int{{1, 2}, {3, 4}}, -2}, {[][]int{{-3, 0}, {0, -5}}, 15},
		{[][]int{{1, 2, 3}, {4, 5, 6}, {7, 8, 9}}, 0}, {[][]int{{1, 2, 3}, {4, 5, 6}, {7, 8, 10}}, -3}, {[][]int{{0, 0, 2}, {3, 0, 0}, {0, 5, 0}}, 30}, {[][]int{{0, 0, 2}, {0, 3, 0}, {5, 0, 0}}, -30},
		{[][]int{{0, 1, 1}, {1, 0, 1}, {1, 1, 0}}, 2}, {[][]int{{1, 2, 3}, {2, 4, 6}, {1, 1, 1}}, 0}, {[][]int{{0, 4, 7}, {0, 5, 8}, {0, 6, 9}}, 0}, {[][]int{{1, 1, 0}, {1, 1, 1}, {0, 1, 1}}, -1}, {[][]int{{6, 10, 15}, {10, 15, 6}, {15, 6, 10}}, -1891},
		{[][]int{{0, 1, 1, 1}, {1, 0, 1, 1}, {1, 1, 0, 1}, {1, 1, 1, 0}}, -3}, {[][]int{{3, -1, -1, 0}, {-1, 3, 0, -1}, {-1, 0, 3, -1}, {0, -1, -1, 3}}, 45},
		{[][]int{{most, most, most, most}, {most, -most, most, -most}, {most, most, -most, -most}, {most, -most, -most, most}}, 16 * columnMax * columnMax},
		{[][]int{{-most, most, most, most, most}, {most, -most, most, most, most}, {most, most, -most, most, most}, {most, most, most, -most, most}, {most, most, most, most, -most}}, 48 * columnMax * columnMax * most},
		{[][]int{{most, -most, most, most, most}, {-most, most, most, most, most}, {most, most, -most, most, most}, {most, most, most, -most, most}, {most, most, most, most, -most}}, -48 * columnMax * columnMax * most},
		{[][]int{{0, 2, 0, 0, 0}, {0, 0, 3, 0, 0}, {0, 0, 0, 5, 0}, {0, 0, 0, 0, 7}, {11, 0, 0, 0, 0}}, 2310}, {[][]int{{0, 2, 0, 0}, {0, 0, 3, 0}, {0, 0, 0, 5}, {7, 0, 0, 0}}, -210},
		{[][]int{{1, 9, 9, 9, 9}, {0, 2, 9, 9, 9}, {0, 0, 3, 9, 9}, {0, 0, 0, 4, 9}, {0, 0, 0, 0, 5}}, 120}, {square(5, func(i int, j int) int { return most }), 0}, {square(5, func(i int, j int) int { return 0 }), 0}, {identity(5), 1},
	}
	for _, c := range cases {
		if got, fine := impl.MatDet(c.m); got != c.want || !fine {
			t.Errorf("MatDet(%v) is %d, %v, wanted %d", c.m, got, fine, c.want)
		}
	}
}

func TestMatDet(t *testing.T) {
	zero, others, beyondFloats := 0, 0, 0
	for _, m := range allMatrices() {
		want := wantedDet(m)
		if want == 0 {
			zero++
		} else {
			others++
		}
		if int(float64(want)) != want {
			beyondFloats++
		}
		if got, fine := impl.MatDet(m); got != want || !fine {
			t.Errorf("MatDet(%v) is %d, %v, wanted %d", m, got, fine, want)
		}
	}
	if zero < 5000 || others < 10000 || beyondFloats < 5 {
		t.Errorf("only %d determinants of 0 and %d others were checked, %d that no float holds", zero, others, beyondFloats)
	}
}

// checkDet wants MatDet to be a number.
func checkDet(t *testing.T, m [][]int, want int) {
	t.Helper()
	if got, fine := impl.MatDet(m); got != want || !fine {
		t.Errorf("MatDet(%v) is %d, %v, wanted %d", m, got, fine, want)
	}
}

// checkDetOr wants MatDet to be a number if all entries are in range, and to fail otherwise. It returns whether they are.
func checkDetOr(t *testing.T, m [][]int, want int) bool {
	t.Helper()
	if entriesInRange(m) {
		checkDet(t, m, want)
		return true
	}
	if got, fine := impl.MatDet(m); got != 0 || fine {
		t.Errorf("MatDet(%v) is %d, %v", m, got, fine)
	}
	return false
}

func TestPromise40(t *testing.T) {
	for _, m := range allMatrices() {
		det, fine := impl.MatDet(m)
		turned, fineTurned := impl.MatTurn(m)
		if !fine || !fineTurned {
			t.Fatalf("MatDet or MatTurn of %v fails", m)
		}
		checkDet(t, turned, det)
		for i := 1; i < len(m); i++ {
			if i == 1 {
				checkDet(t, withRow(withRow(m, 0, m[1]), 1, m[0]), -det)
			}
			checkDet(t, withRow(m, i, m[0]), 0)
		}
	}
}

func TestPromise41(t *testing.T) {
	added, doubled, beyond := 0, 0, 0
	count := func(inRange bool, counter *int) {
		if inRange {
			*counter++
		} else {
			beyond++
		}
	}
	for _, m := range allMatrices() {
		det, fine := impl.MatDet(m)
		if !fine {
			t.Fatalf("MatDet(%v) fails", m)
		}
		for i := range m {
			if i > 0 {
				count(checkDetOr(t, withRow(m, i, combined(m[i], m[0], 1)), det), &added)
			}
			count(checkDetOr(t, withRow(m, i, combined(m[i], m[i], 1)), 2*det), &doubled)
		}
	}
	if added < 10000 || doubled < 10000 || beyond < 500 {
		t.Errorf("only %d rows were added, %d doubled, and %d of these in vain", added, doubled, beyond)
	}
}

func TestMatTurnCases(t *testing.T) {
	cases := []struct {
		m    [][]int
		want [][]int
	}{
		{[][]int{{7}}, [][]int{{7}}}, {[][]int{{-impl.EntryMax}}, [][]int{{-impl.EntryMax}}}, {[][]int{{0}}, [][]int{{0}}}, {[][]int{{1, 2}, {3, 4}}, [][]int{{1, 3}, {2, 4}}}, {[][]int{{0, 5}, {0, 0}}, [][]int{{0, 0}, {5, 0}}},
		{[][]int{{1, 2, 3}, {4, 5, 6}, {7, 8, 9}}, [][]int{{1, 4, 7}, {2, 5, 8}, {3, 6, 9}}}, {[][]int{{1, 1}, {impl.EntryMax, -impl.EntryMax}}, [][]int{{1, impl.EntryMax}, {1, -impl.EntryMax}}},
		{[][]int{{1, 2, 3, 4, 5}, {6, 7, 8, 9, 10}, {11, 12, 13, 14, 15}, {16, 17, 18, 19, 20}, {21, 22, 23, 24, 25}}, [][]int{{1, 6, 11, 16, 21}, {2, 7, 12, 17, 22}, {3, 8, 13, 18, 23}, {4, 9, 14, 19, 24}, {5, 10, 15, 20, 25}}},
	}
	for _, c := range cases {
		if got, fine := impl.MatTurn(c.m); !sameRows(got, c.want) || !fine {
			t.Errorf("MatTurn(%v) is %v, %v, wanted %v", c.m, got, fine, c.want)
		}
	}
	for _, m := range allMatrices() {
		if got, fine := impl.MatTurn(m); !sameRows(got, wantedTurn(m)) || !fine {
			t.Errorf("MatTurn(%v) is %v, %v", m, got, fine)
		}
	}
}

func TestMatTimesCases(t *testing.T) {
	most := impl.EntryMax
	cases := []struct {
		a    [][]int
		b    [][]int
		want [][]int
	}{
		{[][]int{{2, 1}, {5, 4}}, [][]int{{0, 1}, {1, 0}}, [][]int{{1, 2}, {4, 5}}}, {[][]int{{0, 1}, {1, 0}}, [][]int{{2, 1}, {5, 4}}, [][]int{{5, 4}, {2, 1}}}, {[][]int{{1, 2}, {3, 4}}, [][]int{{5, 6}, {7, 8}}, [][]int{{19, 22}, {43, 50}}},
		{[][]int{{6}}, [][]int{{-7}}, [][]int{{-42}}}, {[][]int{{0}}, [][]int{{most}}, [][]int{{0}}}, {[][]int{{1}}, [][]int{{most}}, [][]int{{most}}}, {[][]int{{-1}}, [][]int{{most}}, [][]int{{-most}}}, {[][]int{{40}}, [][]int{{25}}, [][]int{{1000}}}, {[][]int{{40}}, [][]int{{-25}}, [][]int{{-1000}}},
		{[][]int{{7}}, [][]int{{143}}, nil}, {[][]int{{-7}}, [][]int{{143}}, nil}, {[][]int{{most}}, [][]int{{most}}, nil}, {[][]int{{most}}, [][]int{{-most}}, nil}, {[][]int{{2}}, [][]int{{501}}, nil}, {[][]int{{2}}, [][]int{{500}}, [][]int{{1000}}},
		{[][]int{{most, most}, {0, 0}}, [][]int{{1, 0}, {-1, 1}}, [][]int{{0, most}, {0, 0}}}, {[][]int{{most, most}, {most, most}}, [][]int{{most, -most}, {-most, most}}, [][]int{{0, 0}, {0, 0}}}, {[][]int{{most, -most}, {0, 0}}, [][]int{{1, 0}, {-1, 1}}, nil},
		{[][]int{{1, 2, 3}, {0, 1, 0}, {-1, 0, 2}}, [][]int{{1, 0, 2}, {3, 1, 0}, {0, 4, -1}}, [][]int{{7, 14, -1}, {3, 1, 0}, {-1, 8, -4}}}, {identity(5), square(5, func(i int, j int) int { return most }), square(5, func(i int, j int) int { return most })},
		{square(5, func(i int, j int) int { return 1 }), square(5, func(i int, j int) int { return 200 }), square(5, func(i int, j int) int { return 1000 })}, {square(5, func(i int, j int) int { return 1 }), square(5, func(i int, j int) int { return -200 - i/4 }), nil},
		{[][]int{{1}}, identity(2), nil}, {identity(2), [][]int{{1}}, nil}, {identity(3), identity(2), nil}, {identity(4), identity(5), nil}, {[][]int{{0, 0}, {0, 0}}, [][]int{{0}}, nil}, {square(5, func(i int, j int) int { return 0 }), square(4, func(i int, j int) int { return 0 }), nil},
	}
	for _, c := range cases {
		if got, fine := impl.MatTimes(c.a, c.b); !sameRows(got, c.want) || fine != (c.want != nil) {
			t.Errorf("MatTimes(%v, %v) is %v, %v, wanted %v", c.a, c.b, got, fine, c.want)
		}
	}
}

// TestMatTimesAtLimit has products with just one entry that is at a limit or beyond it, in each row and column.
func TestMatTimesAtLimit(t *testing.T) {
	most := impl.EntryMax
	for order := 2; order <= impl.OrderMax; order++ {
		for i := range order {
			for k := range order {
				for j := range order {
					if i == k {
						continue
					}
					a := withEntry(identity(order), i, k, 1)
					for _, sum := range []int{most, most + 1, -most, -most - 1, 2 * most, -2 * most} {
						b := withEntry(withEntry(square(order, func(i int, j int) int { return 0 }), i, j, sum/2), k, j, sum-sum/2)
						checkTimes(t, a, b)
						checkTimes(t, wantedTurn(b), wantedTurn(a))
					}
				}
			}
		}
	}
}

// checkTimes wants the product of two matrices, or nothing if one of its entries is beyond the limits, and returns it.
func checkTimes(t *testing.T, a [][]int, b [][]int) ([][]int, bool) {
	t.Helper()
	want := wantedTimes(a, b)
	if !entriesInRange(want) {
		want = nil
	}
	got, fine := impl.MatTimes(a, b)
	if !sameRows(got, want) || fine != (want != nil) {
		t.Errorf("MatTimes(%v, %v) is %v, %v, wanted %v", a, b, got, fine, want)
	}
	return got, fine
}

// matrixPairs calls with matrices of one order each, always the same ones. Many have a product that is a matrix.
func matrixPairs(call func(a [][]int, b [][]int)) {
	source := rand.New(rand.NewPCG(21, 42))
	small := smallMatrices()
	for _, m := range small {
		for range 2 {
			other := small[source.IntN(len(small))]
			for len(other) != len(m) {
				other = small[source.IntN(len(small))]
			}
			call(m, other)
		}
	}
	larger := largerMatrices()
	for _, m := range larger {
		order := len(m)
		call(m, m)
		call(identity(order), m)
		call(m, identity(order))
		for range 20 {
			few := square(order, func(i int, j int) int { return source.IntN(3) - 1 })
			call(m, few)
			call(few, m)
			if other := larger[source.IntN(len(larger))]; len(other) == order {
				call(m, other)
			}
		}
	}
}

func TestPromise42(t *testing.T) {
	products, beyond := 0, 0
	matrixPairs(func(a [][]int, b [][]int) {
		product, fine := checkTimes(t, a, b)
		if !fine {
			beyond++
			return
		}
		products++
		detA, _ := impl.MatDet(a)
		detB, _ := impl.MatDet(b)
		checkDet(t, product, detA*detB)
		turnedA, _ := impl.MatTurn(a)
		turnedB, _ := impl.MatTurn(b)
		turned, _ := impl.MatTurn(product)
		if got, fine := impl.MatTimes(turnedB, turnedA); !sameRows(got, turned) || !fine {
			t.Errorf("MatTimes(%v, %v) is %v, %v, wanted %v", turnedB, turnedA, got, fine, turned)
		}
		for _, column := range columnsFor(len(a), 3) {
			first, _ := impl.MatApply(b, column)
			second, fineSecond := impl.MatApply(a, first)
			got, fine := impl.MatApply(product, column)
			if !slices.Equal(got, second) || !fine || !fineSecond {
				t.Errorf("MatApply(%v, %v) is %v, %v, wanted %v", product, column, got, fine, second)
			}
		}
	})
	if products < 20000 || beyond < 1000 {
		t.Errorf("only %d products were checked, and %d in vain", products, beyond)
	}
}

func TestMatApplyCases(t *testing.T) {
	most, far := impl.EntryMax, columnMax
	cases := []struct {
		m    [][]int
		list []int
		want []int
	}{
		{[][]int{{2, 1}, {5, 4}}, []int{1, 2}, []int{4, 13}}, {[][]int{{1, 2}, {3, 4}}, []int{1, 0}, []int{1, 3}}, {[][]int{{1, 2}, {3, 4}}, []int{0, 1}, []int{2, 4}}, {[][]int{{0, 0}, {0, 0}}, []int{far, -far}, []int{0, 0}},
		{[][]int{{3}}, []int{-5}, []int{-15}}, {[][]int{{most}}, []int{far}, []int{most * far}}, {[][]int{{-most}}, []int{far}, []int{-most * far}}, {[][]int{{1}}, []int{-far}, []int{-far}}, {[][]int{{0}}, []int{0}, []int{0}},
		{[][]int{{0}}, []int{far + 1}, nil}, {[][]int{{0}}, []int{-far - 1}, nil}, {[][]int{{1, 0}, {0, 0}}, []int{1, far + 1}, nil}, {[][]int{{1, 0}, {0, 0}}, []int{-far - 1, 1}, nil}, {[][]int{{1, 0}, {0, 1}}, []int{far, -far}, []int{far, -far}},
		{[][]int{{1}}, nil, nil}, {[][]int{{1}}, []int{}, nil}, {[][]int{{1}}, []int{1, 1}, nil}, {identity(2), []int{1}, nil}, {identity(2), []int{1, 2, 3}, nil}, {identity(2), []int{1, 2, 0}, nil}, {identity(5), []int{1, 2, 3, 4}, nil}, {identity(5), []int{1, 2, 3, 4, 5, 6}, nil}, {identity(5), []int{5, 4, 3, 2, 1}, []int{5, 4, 3, 2, 1}},
		{square(5, func(i int, j int) int { return most }), slices.Repeat([]int{far}, 5), slices.Repeat([]int{5 * most * far}, 5)}, {square(5, func(i int, j int) int { return -most }), slices.Repeat([]int{far}, 5), slices.Repeat([]int{-5 * most * far}, 5)},
		{[][]int{{1, 2, 3}, {0, 1, 0}, {-1, 0, 2}}, []int{10, -20, 30}, []int{60, -20, 50}}, {[][]int{{most, -most}, {-most, most}}, []int{far, far}, []int{0, 0}}, {[][]int{{most, -most}, {-most, most}}, []int{far, -far}, []int{2 * most * far, -2 * most * far}},
	}
	for _, c := range cases {
		if got, fine := impl.MatApply(c.m, c.list); !slices.Equal(got, c.want) || fine != (c.want != nil) {
			t.Errorf("MatApply(%v, %v) is %v, %v, wanted %v", c.m, c.list, got, fine, c.want)
		}
	}
}

func TestPromise43(t *testing.T) {
	grown, beyond := 0, 0
	for _, m := range allMatrices() {
		for _, list := range columnsFor(len(m), columnMax) {
			sums, fine := impl.MatApply(m, list)
			if !slices.Equal(sums, wantedApply(m, list)) || !fine {
				t.Fatalf("MatApply(%v, %v) is %v, %v, wanted %v", m, list, sums, fine, wantedApply(m, list))
			}
			for j := range list {
				got, fine := impl.MatApply(m, withShare(list, j, 1))
				if list[j] == columnMax {
					beyond++
					if len(got) != 0 || fine {
						t.Errorf("MatApply(%v, %v) is %v, %v with 1 added at %d", m, list, got, fine, j)
					}
					continue
				}
				grown++
				if want := combined(sums, wantedTurn(m)[j], 1); !slices.Equal(got, want) || !fine {
					t.Errorf("MatApply(%v, %v) is %v, %v with 1 added at %d, wanted %v", m, list, got, fine, j, want)
				}
			}
		}
	}
	if grown < 100000 || beyond < 10000 {
		t.Errorf("only %d numbers were made greater, and %d in vain", grown, beyond)
	}
}

func TestMatSolveCases(t *testing.T) {
	most := impl.EntryMax
	cases := []struct {
		m    [][]int
		list []int
		want []int
		det  int
	}{
		{[][]int{{2, 1}, {5, 4}}, []int{4, 13}, []int{3, 6}, 3}, {[][]int{{5, 4}, {2, 1}}, []int{13, 4}, []int{-3, -6}, -3}, {[][]int{{2, 1}, {5, 4}}, []int{1, 0}, []int{4, -5}, 3}, {[][]int{{2, 1}, {5, 4}}, []int{0, 0}, []int{0, 0}, 3},
		{[][]int{{3}}, []int{7}, []int{7}, 3}, {[][]int{{-3}}, []int{7}, []int{7}, -3}, {[][]int{{most}}, []int{-most}, []int{-most}, most}, {[][]int{{1}}, []int{0}, []int{0}, 1}, {[][]int{{1}}, []int{most}, []int{most}, 1},
		{[][]int{{1}}, []int{most + 1}, nil, 0}, {[][]int{{1}}, []int{-most - 1}, nil, 0}, {[][]int{{0}}, []int{0}, nil, 0}, {[][]int{{0}}, []int{5}, nil, 0}, {identity(2), []int{most, -most}, []int{most, -most}, 1}, {identity(2), []int{most, -most - 1}, nil, 0}, {identity(2), []int{most + 1, 0}, nil, 0},
		{[][]int{{1, 2}, {2, 4}}, []int{3, 6}, nil, 0}, {[][]int{{1, 2}, {2, 4}}, []int{3, 5}, nil, 0}, {[][]int{{0, 0}, {0, 0}}, []int{0, 0}, nil, 0}, {[][]int{{1, 1}, {1, 1}}, []int{1, 1}, nil, 0}, {[][]int{{0, 2}, {3, 0}}, []int{10, 12}, []int{-24, -30}, -6},
		{[][]int{{1}}, nil, nil, 0}, {[][]int{{1}}, []int{1, 0}, nil, 0}, {identity(2), []int{1}, nil, 0}, {identity(2), []int{1, 2, 3}, nil, 0}, {identity(5), []int{1, 2, 3, 4}, nil, 0}, {identity(5), []int{1, 2, 3, 4, 5, 0}, nil, 0}, {identity(5), []int{1, 2, 3, 4, 5}, []int{1, 2, 3, 4, 5}, 1},
		{[][]int{{1, 2, 3}, {4, 5, 6}, {7, 8, 10}}, []int{6, 15, 25}, []int{-3, -3, -3}, -3}, {[][]int{{1, 2, 3}, {4, 5, 6}, {7, 8, 9}}, []int{6, 15, 24}, nil, 0}, {[][]int{{2, -1, 0}, {-1, 2, -1}, {0, -1, 2}}, []int{1, 0, 0}, []int{3, 2, 1}, 4},
		{square(5, func(i int, j int) int { return most - 2*most*identity(5)[i][j] }), slices.Repeat([]int{most}, 5), slices.Repeat([]int{16 * columnMax * columnMax * most}, 5), 48 * columnMax * columnMax * most},
	}
	for _, c := range cases {
		if got, det, fine := impl.MatSolve(c.m, c.list); !slices.Equal(got, c.want) || det != c.det || fine != (c.want != nil) {
			t.Errorf("MatSolve(%v, %v) is %v, %d, %v, wanted %v, %d", c.m, c.list, got, det, fine, c.want, c.det)
		}
	}
}

// checkSolve wants the determinants with each column replaced and the determinant, or nothing if this is 0, and returns whether it is not.
func checkSolve(t *testing.T, m [][]int, list []int, want []int, det int) bool {
	t.Helper()
	if det == 0 {
		want = nil
	}
	got, gotDet, fine := impl.MatSolve(m, list)
	if !slices.Equal(got, want) || gotDet != det || fine != (det != 0) {
		t.Errorf("MatSolve(%v, %v) is %v, %d, %v, wanted %v, %d", m, list, got, gotDet, fine, want, det)
	}
	return fine
}

func TestPromise44(t *testing.T) {
	solved, none := 0, 0
	for _, m := range allMatrices() {
		det := wantedDet(m)
		for _, list := range columnsFor(len(m), impl.EntryMax) {
			if !checkSolve(t, m, list, wantedColumnDets(m, list), det) {
				none++
				continue
			}
			solved++
			tops, gotDet, _ := impl.MatSolve(m, list)
			if sums := wantedApply(m, tops); !slices.Equal(sums, multiplied(list, gotDet)) {
				t.Errorf("MatSolve(%v, %v) is %v, %d, but the sums are %v", m, list, tops, gotDet, sums)
			}
		}
	}
	if solved < 100000 || none < 50000 {
		t.Errorf("only %d equations were solved, and %d in vain", solved, none)
	}
}

func multiplied(list []int, times int) []int {
	var products []int
	for _, number := range list {
		products = append(products, number*times)
	}
	return products
}

// TestSolvedIntegers solves for lists that are the matrix applied to small integers.
func TestSolvedIntegers(t *testing.T) {
	solved, beyond := 0, 0
	for _, m := range allMatrices() {
		det, _ := impl.MatDet(m)
		for _, integers := range columnsFor(len(m), 3) {
			list, fine := impl.MatApply(m, integers)
			if !fine {
				t.Fatalf("MatApply(%v, %v) fails", m, integers)
			}
			if !listInRange(list, impl.EntryMax) {
				beyond++
				if got, gotDet, fine := impl.MatSolve(m, list); len(got) != 0 || gotDet != 0 || fine {
					t.Errorf("MatSolve(%v, %v) is %v, %d, %v", m, list, got, gotDet, fine)
				}
				continue
			}
			if checkSolve(t, m, list, multiplied(integers, det), det) {
				solved++
			}
		}
	}
	if solved < 100000 || beyond < 1000 {
		t.Errorf("only %d lists were solved, and %d in vain", solved, beyond)
	}
}

// ahead returns the first rows, and of each the first numbers, for messages.
func ahead(m [][]int) [][]int {
	var rows [][]int
	for _, row := range m[:min(len(m), 7)] {
		rows = append(rows, row[:min(len(row), 7)])
	}
	return rows
}

func checkNoTimes(t *testing.T, a [][]int, b [][]int) {
	t.Helper()
	if got, fine := impl.MatTimes(a, b); len(got) != 0 || fine {
		t.Errorf("MatTimes is %v, %v for %d rows, %v ahead, and %d rows, %v ahead", got, fine, len(a), ahead(a), len(b), ahead(b))
	}
}

func checkNoColumn(t *testing.T, m [][]int, list []int) {
	t.Helper()
	if got, fine := impl.MatApply(m, list); len(got) != 0 || fine {
		t.Errorf("MatApply is %v, %v for %d rows, %v ahead, and %d numbers, %v ahead", got, fine, len(m), ahead(m), len(list), list[:min(len(list), 7)])
	}
	checkNoSolution(t, m, list)
}

func checkNoSolution(t *testing.T, m [][]int, list []int) {
	t.Helper()
	if got, det, fine := impl.MatSolve(m, list); len(got) != 0 || det != 0 || fine {
		t.Errorf("MatSolve is %v, %d, %v for %d rows, %v ahead, and %d numbers, %v ahead", got, det, fine, len(m), ahead(m), len(list), list[:min(len(list), 7)])
	}
}

func TestNoMatrices(t *testing.T) {
	for _, m := range noMatrices() {
		if impl.MatValid(m) {
			t.Errorf("MatValid holds for %d rows, %v ahead", len(m), ahead(m))
		}
		if got, fine := impl.MatDet(m); got != 0 || fine {
			t.Errorf("MatDet is %d, %v for %d rows, %v ahead", got, fine, len(m), ahead(m))
		}
		if got, fine := impl.MatTurn(m); len(got) != 0 || fine {
			t.Errorf("MatTurn is %v, %v for %d rows, %v ahead", got, fine, len(m), ahead(m))
		}
		others := [][][]int{nil, {{0}}, {{1}}, m}
		for order := 1; order <= impl.OrderMax; order++ {
			others = append(others, identity(order), square(order, func(i int, j int) int { return 0 }))
		}
		for _, other := range others {
			checkNoTimes(t, m, other)
			checkNoTimes(t, other, m)
		}
		for _, list := range [][]int{nil, {}, {0}, {1}, make([]int, len(m)), slices.Repeat([]int{1}, len(m)), {1, 2}, {1, 2, 3}, {1, 2, 3, 4}, {1, 2, 3, 4, 5}, {1, 2, 3, 4, 5, 6}} {
			checkNoColumn(t, m, list)
		}
		if len(m) > 0 {
			checkNoColumn(t, m, m[0])
		}
	}
}

// TestOtherOrders has products of matrices with other numbers of rows. Some would be the same with rows and columns of zeros left out.
func TestOtherOrders(t *testing.T) {
	for first := 1; first <= impl.OrderMax; first++ {
		for second := 1; second <= impl.OrderMax; second++ {
			if first == second {
				continue
			}
			for _, number := range []func(i int, j int) int{func(i int, j int) int { return 0 }, func(i int, j int) int { return 1 }, func(i int, j int) int { return (i + j) % 3 }} {
				checkNoTimes(t, square(first, number), square(second, number))
				checkNoTimes(t, identity(first), square(second, number))
				checkNoTimes(t, square(first, number), identity(second))
			}
		}
	}
}

// TestWrongColumns gives other numbers of elements than there are rows, and numbers out of range. The products of some with entries wrap around to 0.
func TestWrongColumns(t *testing.T) {
	for _, m := range append(largerMatrices(), [][]int{{4}}, [][]int{{0}}, [][]int{{2, 4}, {8, 4}}) {
		order := len(m)
		good := slices.Repeat([]int{2}, order)
		for _, list := range [][]int{nil, {}, good[1:], append(slices.Clone(good), 0), append([]int{0}, good...), slices.Concat(good, good), make([]int, 1000)} {
			checkNoColumn(t, m, list)
		}
		for i := range good {
			for _, bad := range badColumnNumbers() {
				for _, list := range withBad(good, i, bad) {
					checkNoColumn(t, m, list)
				}
			}
			for _, bad := range badEntries() {
				for _, list := range withBad(good, i, bad) {
					checkNoSolution(t, m, list)
				}
			}
		}
	}
}

// roomy returns a matrix whose rows are parts of one memory with room between them, and this memory.
func roomy(m [][]int) ([][]int, []int) {
	order := len(m)
	memory := slices.Repeat([]int{77}, order*(order+2))
	rows := make([][]int, order, order+2)
	for i, row := range m {
		rows[i] = memory[i*(order+2):][:order]
		copy(rows[i], row)
	}
	spare := rows[:cap(rows)]
	spare[order], spare[order+1] = []int{78}, []int{79}
	return rows, memory
}

func spoilRows(m [][]int) {
	for _, row := range m[:cap(m)] {
		spoil(row, -9)
	}
	spoil(m, nil)
}

// TestMatArgumentsStay gives lists with room behind their ends, which must stay as well, and so must the rows themselves: which memory is which row.
func TestMatArgumentsStay(t *testing.T) {
	for _, m := range append(largerMatrices(), [][]int{{5, 1001}, {1, 1}}) {
		for _, list := range columnsFor(len(m), 9) {
			rows, memory := roomy(m)
			listRoom := append(slices.Clone(list), 77, 78)
			rowsAhead, memoryAhead, listAhead := slices.Clone(rows[:cap(rows)]), slices.Clone(memory), slices.Clone(listRoom)
			given := listRoom[:len(list)]
			impl.MatValid(rows)
			impl.MatDet(rows)
			turned, _ := impl.MatTurn(rows)
			spoilRows(turned)
			for _, other := range [][][]int{identity(len(m)), rows} {
				first, _ := impl.MatTimes(rows, other)
				spoilRows(first)
				second, _ := impl.MatTimes(other, rows)
				spoilRows(second)
			}
			sums, _ := impl.MatApply(rows, given)
			spoil(sums, -9)
			tops, _, _ := impl.MatSolve(rows, given)
			spoil(tops, -9)
			if !slices.Equal(memory, memoryAhead) || !slices.Equal(listRoom, listAhead) || !sameMemory(rows[:cap(rows)], rowsAhead) {
				t.Fatalf("an argument is changed: %v, %v", rows, listRoom)
			}
		}
	}
}

// sameMemory reports whether rows are the same memory as others.
func sameMemory(a [][]int, b [][]int) bool {
	return slices.EqualFunc(a, b, func(row []int, other []int) bool {
		return len(row) == len(other) && cap(row) == cap(other) && &row[0] == &other[0]
	})
}

// checkNewRows overwrites one row of a result and all room behind it, and wants all other rows, another result and that of a further call to stay.
func checkNewRows(t *testing.T, name string, call func() [][]int) {
	t.Helper()
	want := copyOf(call())
	for i := range want {
		first, second := call(), call()
		spoil(first[i], -9)
		for j, row := range first {
			if j != i && !slices.Equal(row, want[j]) {
				t.Fatalf("two rows of %s share memory: %v", name, first)
			}
		}
		spoilRows(first)
		if third := call(); !sameRows(second, want) || !sameRows(third, want) {
			t.Fatalf("%s is %v and then %v, wanted %v, behind a call whose result was changed", name, second, third, want)
		}
	}
}

// TestMatResultsAreNew has the identity among its arguments, of which the other one is the product.
func TestMatResultsAreNew(t *testing.T) {
	for _, m := range largerMatrices() {
		checkNewRows(t, "MatTurn", func() [][]int { rows, _ := impl.MatTurn(m); return rows })
		checkNewRows(t, "MatTimes", func() [][]int { rows, _ := impl.MatTimes(m, identity(len(m))); return rows })
		checkNewRows(t, "MatTimes", func() [][]int { rows, _ := impl.MatTimes(identity(len(m)), m); return rows })
		for _, list := range columnsFor(len(m), 9) {
			checkNew(t, "MatApply", func() []int { sums, _ := impl.MatApply(m, list); return sums })
			checkNew(t, "MatSolve", func() []int { tops, _, _ := impl.MatSolve(m, list); return tops })
		}
	}
}

// TestSharedRows gives matrices of which all rows are the same memory, and a row of a matrix as the list.
func TestSharedRows(t *testing.T) {
	for order := 1; order <= impl.OrderMax; order++ {
		row := []int{3, -7, 10, 0, 2}[:order]
		shared := slices.Repeat([][]int{row}, order)
		want := copyOf(shared)
		checkDet(t, shared, wantedDet(want))
		checkNewRows(t, "MatTurn", func() [][]int { rows, _ := impl.MatTurn(shared); return rows })
		checkNewRows(t, "MatTimes", func() [][]int { rows, _ := impl.MatTimes(shared, shared); return rows })
		if got, fine := impl.MatTurn(shared); !sameRows(got, wantedTurn(want)) || !fine {
			t.Errorf("MatTurn(%v) is %v, %v", want, got, fine)
		}
		checkTimes(t, shared, shared)
		for _, m := range [][][]int{shared, square(order, func(i int, j int) int { return i*i + 2*j*i + j + 1 }), identity(order)} {
			copied := copyOf(m)
			for i := range m {
				if got, fine := impl.MatApply(m, m[i]); !slices.Equal(got, wantedApply(copied, copied[i])) || !fine {
					t.Errorf("MatApply(%v, %v) is %v, %v", copied, copied[i], got, fine)
				}
				checkSolve(t, m, m[i], wantedColumnDets(copied, copied[i]), wantedDet(copied))
			}
		}
	}
}
