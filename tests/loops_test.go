package tests

import (
	"math"
	"math/rand/v2"
	"slices"
	"testing"

	"loop.example/levellingnet/impl"
)

// indexOf returns the index of the run of a number other than 0.
func indexOf(number int) int {
	return max(number, -number) - 1
}

// endsAlong returns the nodes at which the run of a number begins and ends as the number says.
func endsAlong(runs []impl.Run, number int) (int, int) {
	r := runs[indexOf(number)]
	if number > 0 {
		return r.From, r.To
	}
	return r.To, r.From
}

// numbersOf returns all numbers of as many runs.
func numbersOf(size int) []int {
	var list []int
	for k := range size {
		list = append(list, k+1, -(k + 1))
	}
	return list
}

// wantedLoop compares each number with the one behind it, for numbers of runs.
func wantedLoop(runs []impl.Run, list []int) bool {
	for i, number := range list {
		_, end := endsAlong(runs, number)
		begin, _ := endsAlong(runs, list[(i+1)%len(list)])
		if end != begin {
			return false
		}
	}
	return 1 <= len(list) && len(list) <= impl.RunsMax
}

// wantedError counts how many times each run stands in a loop in its direction more than against it.
func wantedError(runs []impl.Run, loop []int) int {
	times := make([]int, len(runs))
	for _, number := range loop {
		times[indexOf(number)] += number / (indexOf(number) + 1)
	}
	sum := 0
	for k, r := range runs {
		sum += times[k] * r.Rise
	}
	return sum
}

func wantedBack(loop []int) []int {
	var list []int
	for i := len(loop) - 1; i >= 0; i-- {
		list = append(list, -loop[i])
	}
	return list
}

// wantedWays returns all lists that begin with the given one, have no run twice and all further ones in a tree, and are loops.
func wantedWays(v net, tree []int, list []int) [][]int {
	var ways [][]int
	if wantedLoop(v.runs, list) {
		ways = append(ways, list)
	}
	_, end := endsAlong(v.runs, list[len(list)-1])
	for _, number := range numbersOf(len(v.runs)) {
		begin, _ := endsAlong(v.runs, number)
		twice := slices.Contains(list, number) || slices.Contains(list, -number)
		if begin == end && !twice && slices.Contains(tree, indexOf(number)) {
			ways = append(ways, wantedWays(v, tree, append(slices.Clone(list), number))...)
		}
	}
	return ways
}

// wantedFirst returns the first tree of a net and the indexes of all other runs. For a net that is not whole the tree is a smaller one.
func wantedFirst(v net) ([]int, []int) {
	var tree, others []int
	for k, r := range v.runs {
		if least := wantedLinked(v.n, v.runs[:k]); least[r.From] == least[r.To] {
			others = append(others, k)
		} else {
			tree = append(tree, k)
		}
	}
	return tree, others
}

// wantedErrors returns the error of the loop of each run beside the first tree.
func wantedErrors(t *testing.T, v net) []int {
	t.Helper()
	tree, others := wantedFirst(v)
	var list []int
	for _, k := range others {
		ways := wantedWays(v, tree, []int{k + 1})
		if len(ways) != 1 {
			t.Fatalf("there are %d loops of the run %d of %d, %v", len(ways), k, v.n, v.runs)
		}
		list = append(list, wantedError(v.runs, ways[0]))
	}
	return list
}

func allZero(list []int) bool {
	return !slices.ContainsFunc(list, func(number int) bool { return number != 0 })
}

// someLoops returns loops of a net, always the same ones: walks that come back to where they begin, also if they go through nodes and runs again.
func someLoops(v net, times int) [][]int {
	source := rand.New(rand.NewPCG(13, 27))
	var list [][]int
	for try := range times {
		if len(v.runs) == 0 {
			break
		}
		size, numbers := 1+try%impl.RunsMax, numbersOf(len(v.runs))
		var walk []int
		for len(walk) < size && len(numbers) > 0 {
			number := numbers[source.IntN(len(numbers))]
			walk = append(walk, number)
			numbers = slices.DeleteFunc(numbersOf(len(v.runs)), func(next int) bool {
				_, end := endsAlong(v.runs, number)
				begin, _ := endsAlong(v.runs, next)
				return begin != end
			})
			if wantedLoop(v.runs, walk) {
				list = append(list, slices.Clone(walk))
			}
		}
	}
	slices.SortFunc(list, slices.Compare[[]int])
	return slices.CompactFunc(list, slices.Equal[[]int])
}

// loopNets are further nets: with loops at the limits, and such that are not whole but have loops.
func loopNets() []net {
	most := impl.RiseMax
	list := []net{
		{2, []impl.Run{run(0, 1, most, 1), run(1, 0, most, 1)}},
		{2, []impl.Run{run(1, 0, -most, 1), run(1, 0, most, 1)}},
		{3, []impl.Run{run(0, 1, 5, 1), run(2, 1, 2, 2), run(0, 2, 4, 2)}},
		{6, append(chain(6, most), run(5, 0, most, 1))},
		{6, append(chain(6, -most), run(0, 5, most, 1), run(5, 0, -most, 1))},
		{6, []impl.Run{run(0, 1, 1, 1), run(0, 2, 2, 1), run(0, 3, 3, 1), run(4, 0, 4, 1), run(5, 0, 5, 1), run(3, 5, 6, 1), run(2, 4, 7, 1), run(1, 2, 8, 1)}},
		{6, append(ringAt(0), ringAt(3)...)},
		{5, append(ringAt(0), ringAt(2)...)},
		{6, append(ringAt(1), repeated(run(1, 3, 9, 1), 3)...)},
	}
	for n := 2; n <= impl.NodesMax; n++ {
		runs := append(chain(n, most), chain(n, -most)...)
		list = append(list, net{n, runs}, net{n, append(ring(n), run(0, n-1, -3, 2))})
	}
	return list
}

func allLoopNets() []net {
	return slices.Concat(loopNets(), treeNets(), allNets())
}

// eachLoop calls a function for some loops of all nets, and checks that there are as many.
func eachLoop(t *testing.T, least int, call func(v net, loop []int)) {
	t.Helper()
	calls := 0
	for _, v := range allLoopNets() {
		for _, loop := range someLoops(v, 24) {
			calls++
			call(v, loop)
		}
	}
	if calls < least {
		t.Errorf("only %d loops were checked", calls)
	}
}

func TestLoopIsCases(t *testing.T) {
	// Two rings with the common node 1, and a run to the node 5 on a way of no return but itself.
	runs := []impl.Run{run(0, 1, 5, 1), run(2, 1, 2, 3), run(0, 2, 4, 2), run(1, 3, 1, 1), run(4, 3, 7, 1), run(1, 4, 9, 1), run(5, 4, 1, 1)}
	cases := []struct {
		n    int
		loop []int
		want bool
	}{
		{6, []int{3, 2, -1}, true}, {6, []int{2, -1, 3}, true}, {6, []int{-1, 3, 2}, true}, {6, []int{1, -2, -3}, true},
		{6, []int{-3, -2, 1}, false}, {6, []int{3, -1, 2}, false}, {6, []int{3, 2, 1}, false}, {6, []int{1, 2, 3}, false}, {6, []int{3, -2, -1}, false}, {6, []int{-3, 2, -1}, false},
		{6, []int{3, 2}, false}, {6, []int{2, -1}, false}, {6, []int{3, -1}, false}, {6, []int{3, 2, -1, 3}, false}, {6, []int{3, 2, -1, -1}, false},
		{6, []int{1, -1}, true}, {6, []int{-1, 1}, true}, {6, []int{1, 1}, false}, {6, []int{-1, -1}, false}, {6, []int{7, -7}, true}, {6, []int{-7, 7}, true},
		{6, []int{1}, false}, {6, []int{-1}, false}, {6, []int{7}, false}, {6, []int{-7}, false}, {6, []int{0}, false}, {6, nil, false}, {6, []int{}, false},
		{6, []int{1, 4, -5, -6, -2, -3}, true}, {6, []int{4, -5, -6, -2, -3, 1}, true}, {6, []int{1, 6, 5, -4, -2, -3}, true}, {6, []int{1, 4, -5, 6, -2, -3}, false},
		{6, []int{4, -5, -6}, true}, {6, []int{6, 5, -4}, true}, {6, []int{4, 5, 6}, false}, {6, []int{6, -7, 7, -6}, true}, {6, []int{6, 7, -7, -6}, false},
		{6, []int{3, 2, -1, 3, 2, -1}, true}, {6, []int{3, 2, -1, 1, -2, -3}, true}, {6, []int{3, 2, -1, -3, -2, 1}, false},
		{6, []int{3, 2, -1, 3, 2, -1, 3, 2, -1, 3, 2, -1}, true}, {6, []int{3, 2, -1, 3, 2, -1, 3, 2, -1, 3, 2, -1, 3, 2, -1}, false},
		{6, []int{1, -1, 1, -1, 1, -1, 1, -1, 1, -1, 1, -1}, true}, {6, []int{1, -1, 1, -1, 1, -1, 1, -1, 1, -1, 1, -1, 1, -1}, false},
		{6, []int{3, 2, -1, 1, -1, 1, -1, 1, -1, 1, -1}, true}, {6, []int{3, 2, -1, 1, -1, 1, -1, 1, -1, 1, -1, 1, -1}, false},
		{6, []int{8, -8}, false}, {6, []int{3, 2, -1, 8}, false}, {6, []int{3, 2, -1, 0}, false}, {6, []int{0, 3, 2, -1}, false}, {6, []int{3, 0, 2, -1}, false}, {6, []int{0, 0}, false},
		{5, []int{3, 2, -1}, false}, {7, []int{3, 2, -1}, false}, {0, []int{3, 2, -1}, false}, {-6, []int{3, 2, -1}, false},
	}
	for _, c := range cases {
		if got := impl.LoopIs(c.n, runs, c.loop); got != c.want {
			t.Errorf("LoopIs(%d, .., %v) is %v", c.n, c.loop, got)
		}
	}
}

// TestLoopsOfTwoRuns checks runs between the same nodes, in the same and in opposite directions.
func TestLoopsOfTwoRuns(t *testing.T) {
	same := []impl.Run{run(0, 1, 5, 1), run(0, 1, 7, 1)}
	opposite := []impl.Run{run(0, 1, 5, 1), run(1, 0, 7, 1)}
	for _, first := range numbersOf(2) {
		for _, second := range numbersOf(2) {
			list := []int{first, second}
			if got := impl.LoopIs(2, same, list); got != (first*second < 0) {
				t.Errorf("LoopIs(2, %v, %v) is %v", same, list, got)
			}
			wanted := first == -second || first == 3-second
			if got := impl.LoopIs(2, opposite, list); got != (wanted || first == -3-second) {
				t.Errorf("LoopIs(2, %v, %v) is %v", opposite, list, got)
			}
		}
	}
	errors := []struct {
		runs []impl.Run
		loop []int
		want int
	}{
		{same, []int{1, -2}, -2}, {same, []int{2, -1}, 2}, {same, []int{-1, 2}, 2}, {same, []int{-2, 1}, -2}, {same, []int{1, -1}, 0},
		{opposite, []int{1, 2}, 12}, {opposite, []int{2, 1}, 12}, {opposite, []int{-1, -2}, -12}, {opposite, []int{-2, -1}, -12}, {opposite, []int{-2, 2}, 0},
	}
	for _, c := range errors {
		if got, fine := impl.LoopError(2, c.runs, c.loop); got != c.want || !fine {
			t.Errorf("LoopError(2, %v, %v) is %d, %v, wanted %d", c.runs, c.loop, got, fine, c.want)
		}
	}
}

// TestLoopIsOfLists tries all lists of up to 3 or 4 numbers, also of 0 and of no run, in nets of few runs.
func TestLoopIsOfLists(t *testing.T) {
	for _, v := range allLoopNets() {
		if len(v.runs) > 3 {
			continue
		}
		numbers := append(numbersOf(len(v.runs)+1), 0)
		lists := [][]int{nil}
		for range min(4, 6-len(v.runs)) {
			var longer [][]int
			for _, list := range lists {
				for _, number := range numbers {
					longer = append(longer, append(slices.Clone(list), number))
				}
			}
			lists = longer
			checkLoopIs(t, v, lists)
		}
	}
}

func checkLoopIs(t *testing.T, v net, lists [][]int) {
	t.Helper()
	for _, list := range lists {
		runsOnly := !slices.ContainsFunc(list, func(number int) bool { return number == 0 || indexOf(number) >= len(v.runs) })
		if got := impl.LoopIs(v.n, v.runs, list); got != (runsOnly && wantedLoop(v.runs, list)) {
			t.Fatalf("LoopIs(%d, %v, %v) is %v", v.n, v.runs, list, got)
		}
	}
}

func checkNoLoop(t *testing.T, v net, list []int) {
	t.Helper()
	name, runs := list[:min(len(list), 20)], v.runs[max(0, len(v.runs)-12):]
	if impl.LoopIs(v.n, v.runs, list) {
		t.Errorf("LoopIs holds for %d nodes, %d runs, %v at the end, and %v", v.n, len(v.runs), runs, name)
	}
	if got, fine := impl.LoopError(v.n, v.runs, list); got != 0 || fine {
		t.Errorf("LoopError is %d, %v for %d nodes, %d runs, %v at the end, and %v", got, fine, v.n, len(v.runs), runs, name)
	}
	if got, fine := impl.LoopBack(v.n, v.runs, list); len(got) != 0 || fine {
		t.Errorf("LoopBack is %v, %v for %d nodes, %d runs, %v at the end, and %v", got, fine, v.n, len(v.runs), runs, name)
	}
}

// strangeLists are lists with a number of no run, and such as are too long or empty.
func strangeLists(v net, loop []int) [][]int {
	size := len(v.runs)
	list := [][]int{nil, {}, slices.Repeat(loop, impl.RunsMax/len(loop)+1), slices.Repeat(loop, 50000), make([]int, 100000)}
	list = append(list, slices.Repeat([]int{1, -1}, impl.RunsMax/2+1), slices.Repeat([]int{loop[0], -loop[0]}, 1<<16))
	for i, number := range loop {
		for _, bad := range append([]int{0, size + 1, -size - 1, size + 2, -size - 2, number + 1<<32, number - 1<<32, number + math.MinInt}, badNumbers...) {
			other := slices.Clone(loop)
			other[i] = bad
			list = append(list, other)
		}
		list = append(list, slices.Insert(slices.Clone(loop), i, 0), slices.Insert(slices.Clone(loop), i, 0, 0))
	}
	return list
}

func TestStrangeLists(t *testing.T) {
	for _, v := range append(loopNets(), treeNets()...) {
		loops := someLoops(v, 24)
		for _, loop := range loops[:min(3, len(loops))] {
			for _, list := range strangeLists(v, loop) {
				checkNoLoop(t, v, list)
			}
		}
	}
}

// TestChangedLoops checks lists of numbers of runs next to loops: with a number left out, turned, twice, exchanged or replaced.
func TestChangedLoops(t *testing.T) {
	loops, others := 0, 0
	for _, v := range append(loopNets(), treeNets()...) {
		for _, loop := range someLoops(v, 24) {
			for _, list := range changedLoops(loop, len(v.runs)) {
				if wantedLoop(v.runs, list) {
					loops++
					if !impl.LoopIs(v.n, v.runs, list) {
						t.Fatalf("LoopIs(%d, %v, %v) is false", v.n, v.runs, list)
					}
					continue
				}
				others++
				checkNoLoop(t, v, list)
			}
		}
	}
	if loops < 1000 || others < 10000 {
		t.Errorf("only %d loops and %d other lists were checked", loops, others)
	}
}

func changedLoops(loop []int, size int) [][]int {
	var list [][]int
	for i, number := range loop {
		turned, replaced, exchanged := slices.Clone(loop), slices.Clone(loop), slices.Clone(loop)
		turned[i] = -number
		replaced[i] = (indexOf(number)+1)%size + 1
		exchanged[0], exchanged[i] = exchanged[i], exchanged[0]
		list = append(list, without(loop, i), turned, replaced, exchanged)
		list = append(list, slices.Insert(slices.Clone(loop), i, number), slices.Insert(slices.Clone(loop), i, number, -number))
	}
	return list
}

func TestLoopErrorCases(t *testing.T) {
	most := impl.RiseMax
	runs := []impl.Run{run(0, 1, 5, 1), run(2, 1, 2, 2), run(0, 2, 4, 9)}
	up := []impl.Run{run(0, 1, most, 1), run(1, 0, most, 9)}
	rising := append(chain(6, most), run(5, 0, most, 1))
	cases := []struct {
		n    int
		runs []impl.Run
		loop []int
		want int
	}{
		{3, runs, []int{3, 2, -1}, 1}, {3, runs, []int{1, -2, -3}, -1}, {3, runs, []int{2, -1, 3}, 1}, {3, runs, []int{1, -1}, 0}, {3, runs, []int{-3, 3}, 0},
		{3, runs, []int{3, 2, -1, 3, 2, -1}, 2}, {3, runs, []int{3, 2, -1, 1, -2, -3}, 0}, {3, runs, []int{3, 2, -2, 2, -1}, 1},
		{4, runs, []int{3, 2, -1}, 1},
		{2, up, []int{1, 2}, 2 * most}, {2, up, []int{-1, -2}, -2 * most}, {2, up, slices.Repeat([]int{2, 1}, 6), 12 * most}, {2, up, slices.Repeat([]int{-2, -1}, 6), -12 * most},
		{6, rising, []int{1, 2, 3, 4, 5, 6}, 6 * most}, {6, rising, []int{-5, -4, -3, -2, -1, -6, -5, -4, -3, -2, -1, -6}, -12 * most},
		{2, repeated(run(1, 0, -most, 1), 12), []int{12, -1}, 0},
	}
	for _, c := range cases {
		if got, fine := impl.LoopError(c.n, c.runs, c.loop); got != c.want || !fine {
			t.Errorf("LoopError(%d, %v, %v) is %d, %v, wanted %d", c.n, c.runs, c.loop, got, fine, c.want)
		}
	}
}

func TestPromise27(t *testing.T) {
	eachLoop(t, 20000, func(v net, loop []int) {
		want := wantedError(v.runs, loop)
		for i := range loop {
			moved := slices.Concat(loop[i:], loop[:i])
			if !impl.LoopIs(v.n, v.runs, moved) {
				t.Fatalf("LoopIs(%d, %v, %v) is false", v.n, v.runs, moved)
			}
			if got, fine := impl.LoopError(v.n, v.runs, moved); got != want || !fine {
				t.Errorf("LoopError(%d, %v, %v) is %d, %v, wanted %d", v.n, v.runs, moved, got, fine, want)
			}
		}
		for _, heights := range heightsFor(v.n) {
			runs := fittingRuns(v.runs, heights)
			if got, fine := impl.LoopError(v.n, runs, loop); got != 0 || !fine {
				t.Errorf("LoopError(%d, %v, %v) is %d, %v for the rises of heights", v.n, runs, loop, got, fine)
			}
		}
	})
}

func TestLoopBackCases(t *testing.T) {
	runs := []impl.Run{run(0, 1, 5, 1), run(2, 1, 2, 2), run(0, 2, 4, 2)}
	cases := []struct {
		loop []int
		want []int
	}{
		{[]int{3, 2, -1}, []int{1, -2, -3}},
		{[]int{1, -2, -3}, []int{3, 2, -1}},
		{[]int{1, -1}, []int{1, -1}},
		{[]int{3, 2, -2, 2, -1}, []int{1, -2, 2, -2, -3}},
		{slices.Repeat([]int{2, -1, 3}, 4), slices.Repeat([]int{-3, 1, -2}, 4)},
	}
	for _, c := range cases {
		if got, fine := impl.LoopBack(3, runs, c.loop); !slices.Equal(got, c.want) || !fine {
			t.Errorf("LoopBack(3, %v, %v) is %v, %v, wanted %v", runs, c.loop, got, fine, c.want)
		}
	}
}

func TestPromise28(t *testing.T) {
	doubled, long := 0, 0
	eachLoop(t, 20000, func(v net, loop []int) {
		back, fine := impl.LoopBack(v.n, v.runs, loop)
		if !slices.Equal(back, wantedBack(loop)) || !fine {
			t.Fatalf("LoopBack(%d, %v, %v) is %v, %v", v.n, v.runs, loop, back, fine)
		}
		if same, good := impl.LoopBack(v.n, v.runs, back); !slices.Equal(same, loop) || !good {
			t.Errorf("LoopBack(%d, %v, %v) is %v, %v, wanted %v", v.n, v.runs, back, same, good, loop)
		}
		there, _ := impl.LoopError(v.n, v.runs, loop)
		if got, good := impl.LoopError(v.n, v.runs, back); got != -there || !good {
			t.Errorf("LoopError(%d, %v, %v) is %d, %v, but %d for the loop back", v.n, v.runs, back, got, good, there)
		}
		both := slices.Concat(loop, back)
		if len(both) > impl.RunsMax {
			long++
			checkNoLoop(t, v, both)
			return
		}
		doubled++
		if got, good := impl.LoopError(v.n, v.runs, both); got != 0 || !good || !impl.LoopIs(v.n, v.runs, both) {
			t.Errorf("LoopError(%d, %v, %v) is %d, %v", v.n, v.runs, both, got, good)
		}
	})
	if doubled < 1000 || long < 1000 {
		t.Errorf("only %d loops have room for their way back, and %d have none", doubled, long)
	}
}

func TestLoopOfCases(t *testing.T) {
	star := []impl.Run{run(0, 1, 1, 1), run(0, 2, 2, 1), run(0, 3, 3, 1), run(4, 0, 4, 1), run(5, 0, 5, 1), run(3, 5, 6, 1), run(2, 4, 7, 1), run(1, 2, 8, 1)}
	// A loop of its own, beside which the first tree has branches without end at each node.
	branches := []impl.Run{run(1, 0, 1, 1), run(1, 2, 1, 1), run(3, 1, 1, 1), run(2, 4, 1, 1), run(5, 4, 1, 1), run(0, 5, 1, 1), run(3, 4, 1, 1)}
	cases := []struct {
		n    int
		runs []impl.Run
		k    int
		want []int
	}{
		{3, []impl.Run{run(0, 1, 5, 1), run(2, 1, 2, 2), run(0, 2, 4, 2)}, 2, []int{3, 2, -1}},
		{3, []impl.Run{run(0, 1, 5, 1), run(2, 1, 2, 2), run(2, 0, 4, 2)}, 2, []int{3, 1, -2}},
		{3, []impl.Run{run(1, 0, 5, 1), run(1, 2, 2, 2), run(0, 2, 4, 2)}, 2, []int{3, -2, 1}},
		{2, []impl.Run{run(0, 1, 5, 1), run(0, 1, 2, 2)}, 1, []int{2, -1}},
		{2, []impl.Run{run(0, 1, 5, 1), run(1, 0, 2, 2)}, 1, []int{2, 1}},
		{2, []impl.Run{run(1, 0, 5, 1), run(0, 1, 2, 2)}, 1, []int{2, 1}},
		{2, repeated(run(1, 0, 5, 1), 12), 11, []int{12, -1}},
		{3, []impl.Run{run(1, 2, 5, 1), run(2, 1, 5, 1), run(0, 1, 5, 1), run(2, 1, 5, 1), run(2, 0, 1, 1)}, 3, []int{4, 1}},
		{3, []impl.Run{run(1, 2, 5, 1), run(2, 1, 5, 1), run(0, 1, 5, 1), run(2, 1, 5, 1), run(2, 0, 1, 1)}, 4, []int{5, 3, 1}},
		{6, append(chain(6, 1), run(5, 0, 1, 1)), 5, []int{6, 1, 2, 3, 4, 5}},
		{6, append(chain(6, 1), run(0, 5, 1, 1)), 5, []int{6, -5, -4, -3, -2, -1}},
		{6, append(ring(6), ring(6)...), 11, []int{12, 1, 2, 3, 4, 5}},
		{6, append(ring(6), ring(6)...), 8, []int{9, -3}},
		{6, star, 5, []int{6, 5, 3}}, {6, star, 6, []int{7, 4, 2}}, {6, star, 7, []int{8, -2, 1}},
		{6, branches, 5, []int{6, 5, -4, -2, 1}}, {6, branches, 6, []int{7, -4, -2, -3}},
	}
	for _, c := range cases {
		if got, fine := impl.LoopOf(c.n, c.runs, c.k); !slices.Equal(got, c.want) || !fine {
			t.Errorf("LoopOf(%d, %v, %d) is %v, %v, wanted %v", c.n, c.runs, c.k, got, fine, c.want)
		}
	}
}

func TestPromise29(t *testing.T) {
	loops, inTree, parted := 0, 0, 0
	for _, v := range allLoopNets() {
		tree, others := wantedFirst(v)
		whole := wantedWhole(v.n, v.runs)
		for k := range v.runs {
			switch {
			case whole && slices.Contains(others, k):
				loops++
				checkPromise29(t, v, tree, k)
				continue
			case whole:
				inTree++
			default:
				parted++
			}
			checkNoLoopOf(t, v, k)
		}
		for _, k := range append([]int{-1, -2, len(v.runs), len(v.runs) + 1, impl.RunsMax}, badNumbers...) {
			checkNoLoopOf(t, v, k)
		}
	}
	if loops < 2000 || inTree < 2000 || parted < 1000 {
		t.Errorf("only %d loops, %d runs of first trees and %d runs of nets that are not whole were checked", loops, inTree, parted)
	}
}

func checkNoLoopOf(t *testing.T, v net, k int) {
	t.Helper()
	if got, fine := impl.LoopOf(v.n, v.runs, k); len(got) != 0 || fine {
		t.Errorf("LoopOf is %v, %v for %d nodes, %d runs, %v at the end, and the run %d", got, fine, v.n, len(v.runs), v.runs[max(0, len(v.runs)-12):], k)
	}
}

func checkPromise29(t *testing.T, v net, tree []int, k int) {
	t.Helper()
	loop, fine := impl.LoopOf(v.n, v.runs, k)
	if !fine || len(loop) == 0 || loop[0] != k+1 || !impl.LoopIs(v.n, v.runs, loop) || !wantedLoop(v.runs, loop) {
		t.Fatalf("LoopOf(%d, %v, %d) is %v, %v", v.n, v.runs, k, loop, fine)
	}
	if ways := wantedWays(v, tree, []int{k + 1}); len(ways) != 1 || !slices.Equal(ways[0], loop) {
		t.Fatalf("LoopOf(%d, %v, %d) is %v, but the loops are %v", v.n, v.runs, k, loop, ways)
	}
	for i, number := range loop[1:] {
		if slices.Contains(loop[:i+1], number) || slices.Contains(loop[:i+1], -number) || !slices.Contains(tree, indexOf(number)) {
			t.Errorf("LoopOf(%d, %v, %d) is %v: wrong at %d", v.n, v.runs, k, loop, number)
		}
	}
	heights, _ := impl.TreeHeights(v.n, v.runs, tree)
	want := v.runs[k].Rise - (heights[v.runs[k].To] - heights[v.runs[k].From])
	if got, good := impl.LoopError(v.n, v.runs, loop); got != want || !good {
		t.Errorf("LoopError(%d, %v, %v) is %d, %v, wanted %d", v.n, v.runs, loop, got, good, want)
	}
}

func TestLoopErrorsCases(t *testing.T) {
	most := impl.RiseMax
	cases := []struct {
		n    int
		runs []impl.Run
		want []int
		fine bool
	}{
		{3, []impl.Run{run(0, 1, 5, 1), run(2, 1, 2, 2), run(0, 2, 4, 2)}, []int{1}, true},
		{3, []impl.Run{run(0, 1, 5, 1), run(2, 1, 2, 2), run(0, 2, 3, 2)}, []int{0}, true},
		{3, []impl.Run{run(0, 1, 5, 1), run(2, 1, 2, 2), run(2, 0, 4, 2)}, []int{7}, true},
		{3, []impl.Run{run(0, 1, 5, 1), run(1, 0, -4, 3), run(2, 1, 2, 2), run(0, 2, 3, 2), run(2, 0, 9, 1)}, []int{1, 0, 12}, true},
		{2, []impl.Run{run(0, 1, 5, 1)}, nil, true},
		{2, []impl.Run{run(0, 1, 5, 1), run(0, 1, 4, 1), run(1, 0, -5, 1), run(1, 0, 6, 1)}, []int{-1, 0, 11}, true},
		{6, chain(6, most), nil, true},
		{6, append(chain(6, most), run(5, 0, most, 1)), []int{6 * most}, true},
		{6, append(chain(6, -most), run(5, 0, -most, 1), run(0, 5, most, 1)), []int{-6 * most, 6 * most}, true},
		{2, append(repeated(run(0, 1, -most, 9), 11), run(0, 1, most, 9)), []int{0, 0, 0, 0, 0, 0, 0, 0, 0, 0, 2 * most}, true},
		{2, nil, nil, false},
		{6, []impl.Run{}, nil, false},
		{3, repeated(run(0, 1, 5, 1), 12), nil, false},
		{4, []impl.Run{run(0, 1, 5, 1), run(2, 1, 2, 2), run(0, 2, 4, 2)}, nil, false},
		{6, append(ringAt(0), ringAt(3)...), nil, false},
	}
	for _, c := range cases {
		if got, fine := impl.LoopErrors(c.n, c.runs); !slices.Equal(got, c.want) || fine != c.fine {
			t.Errorf("LoopErrors(%d, %v) is %v, %v, wanted %v, %v", c.n, c.runs, got, fine, c.want, c.fine)
		}
		if got := impl.LoopCloses(c.n, c.runs); got != (c.fine && allZero(c.want)) {
			t.Errorf("LoopCloses(%d, %v) is %v", c.n, c.runs, got)
		}
	}
}

// closingNets are all nets with the rises of heights, and some of them with one rise that is wrong.
func closingNets() []net {
	var list []net
	for _, v := range allLoopNets() {
		for _, heights := range heightsFor(v.n)[1:3] {
			runs := fittingRuns(v.runs, heights)
			list = append(list, net{v.n, runs})
			for k := range runs {
				if k%3 == 0 {
					list = append(list, net{v.n, withRise(runs, k, -1)}, net{v.n, withRise(runs, k, 1)})
				}
			}
		}
	}
	return slices.DeleteFunc(list, func(v net) bool { return !impl.NetValid(v.n, v.runs) })
}

// withRise returns the runs with the rise of one of them changed.
func withRise(runs []impl.Run, k int, by int) []impl.Run {
	list := slices.Clone(runs)
	list[k].Rise += by
	return list
}

func TestPromise30(t *testing.T) {
	closing, open := 0, 0
	for _, v := range append(closingNets(), allLoopNets()...) {
		list, fine := impl.LoopErrors(v.n, v.runs)
		if fine != wantedWhole(v.n, v.runs) {
			t.Fatalf("LoopErrors(%d, %v) is %v, %v", v.n, v.runs, list, fine)
		}
		closes := impl.LoopCloses(v.n, v.runs)
		if !fine {
			if len(list) != 0 || closes {
				t.Errorf("LoopErrors(%d, %v) is %v, and LoopCloses %v, but the net is not whole", v.n, v.runs, list, closes)
			}
			continue
		}
		if len(list) != impl.NetLoops(v.n, v.runs) || !slices.Equal(list, wantedErrors(t, v)) {
			t.Fatalf("LoopErrors(%d, %v) is %v, wanted %v", v.n, v.runs, list, wantedErrors(t, v))
		}
		tree, _ := impl.TreeFirst(v.n, v.runs)
		heights, _ := impl.TreeHeights(v.n, v.runs, tree)
		if fits := impl.NetFits(v.n, v.runs, heights); closes != allZero(list) || closes != fits {
			t.Errorf("LoopErrors(%d, %v) is %v, but LoopCloses %v and NetFits %v", v.n, v.runs, list, closes, fits)
		}
		if closes {
			closing++
		} else {
			open++
		}
	}
	if closing < 2000 || open < 2000 {
		t.Errorf("only %d nets that close and %d others were checked", closing, open)
	}
}

func TestPromise31(t *testing.T) {
	needed, others := 0, 0
	for _, v := range closingNets() {
		if !wantedWhole(v.n, v.runs) || !allZero(wantedErrors(t, v)) {
			continue
		}
		if !impl.LoopCloses(v.n, v.runs) {
			t.Fatalf("LoopCloses(%d, %v) is false", v.n, v.runs)
		}
		tree, _ := impl.TreeFirst(v.n, v.runs)
		if heights, fine := impl.TreeHeights(v.n, v.runs, tree); !fine || !impl.NetFits(v.n, v.runs, heights) {
			t.Errorf("LoopCloses(%d, %v) holds, but %v do not fit", v.n, v.runs, heights)
		}
		for k := range v.runs {
			higher := withRise(v.runs, k, 1)
			alone := !wantedWhole(v.n, slices.Delete(slices.Clone(v.runs), k, k+1))
			if got := impl.LoopCloses(v.n, higher); got != (alone && impl.NetValid(v.n, higher)) {
				t.Errorf("LoopCloses(%d, %v) is %v, but the net without the run %d is whole: %v", v.n, higher, got, k, !alone)
			}
			if alone {
				needed++
			} else {
				others++
			}
		}
	}
	if needed < 1000 || others < 1000 {
		t.Errorf("only %d runs without which the net is not whole and %d others were checked", needed, others)
	}
}

func TestPromise32(t *testing.T) {
	same, invalid := 0, 0
	for _, v := range allLoopNets() {
		list, fine := impl.LoopErrors(v.n, v.runs)
		if !fine {
			continue
		}
		for _, heights := range heightsFor(v.n) {
			runs := fittingRuns(v.runs, heights)
			for k := range runs {
				runs[k].Rise += v.runs[k].Rise
			}
			got, good := impl.LoopErrors(v.n, runs)
			if !impl.NetValid(v.n, runs) {
				invalid++
				if len(got) != 0 || good {
					t.Errorf("LoopErrors(%d, %v) is %v, %v", v.n, runs, got, good)
				}
				continue
			}
			same++
			if !slices.Equal(got, list) || !good {
				t.Errorf("LoopErrors(%d, %v) is %v, %v, but %v with the rises of the heights %v taken away", v.n, runs, got, good, list, heights)
			}
		}
	}
	if same < 1000 || invalid < 100 {
		t.Errorf("only %d nets were raised, and %d in vain", same, invalid)
	}
}

// loopedInvalidNets are invalid, but their first runs would be a ring, and some would close.
func loopedInvalidNets() []net {
	var list []net
	for _, n := range []int{impl.NodesMax + 1, impl.NodesMax + 2, impl.RunsMax} {
		list = append(list, net{n, ring(n)}, net{n, fittingRuns(ring(n), make([]int, n))})
	}
	for n := 2; n <= impl.NodesMax; n++ {
		level := fittingRuns(ring(n), make([]int, n))
		list = append(list, net{n, append(level, repeated(run(0, 1, 0, 1), impl.RunsMax+1-n)...)})
		list = append(list, net{n, append(ring(n), repeated(run(0, 1, 1, 1), 1000)...)})
		for _, bad := range invalidRuns(n) {
			list = append(list, net{n, append(slices.Clone(level), bad)}, net{n, append([]impl.Run{bad}, ring(n)...)})
		}
		for k := range n {
			for _, bad := range []impl.Run{run(k, (k+1)%n, 0, 0), run(k, (k+1)%n, 0, impl.WeightMax+1), run((k+1)%n, k, impl.RiseMax+1, 1), run(k, (k+1)%n, -impl.RiseMax-1, 1)} {
				runs := slices.Clone(level)
				runs[k] = bad
				list = append(list, net{n, runs})
			}
		}
	}
	return append(list, net{0, ring(2)}, net{1, ring(2)}, net{-3, ring(3)}, net{math.MinInt, ring(3)}, net{math.MaxInt, ring(3)}, net{3 + 1<<32, ring(3)})
}

func TestLoopsOfInvalidNets(t *testing.T) {
	for _, v := range slices.Concat(loopedInvalidNets(), linkedInvalidNets(), invalidNets()) {
		name := v.runs[max(0, len(v.runs)-2):]
		if list, fine := impl.LoopErrors(v.n, v.runs); len(list) != 0 || fine {
			t.Errorf("LoopErrors is %v, %v for %d nodes and %d runs, %v at the end", list, fine, v.n, len(v.runs), name)
		}
		if impl.LoopCloses(v.n, v.runs) {
			t.Errorf("LoopCloses holds for %d nodes and %d runs, %v at the end", v.n, len(v.runs), name)
		}
		for _, k := range append(firstIndexes(min(len(v.runs), 15)), -1, len(v.runs)-1, len(v.runs), math.MinInt, math.MaxInt) {
			checkNoLoopOf(t, v, k)
		}
		round := make([]int, min(max(v.n, 1), impl.RunsMax))
		for i := range round {
			round[i] = i + 1
		}
		for _, list := range [][]int{nil, {}, {0}, {1}, {1, -1}, {-1, 1}, {2, -2}, {1, 2}, round, wantedBack(round), {math.MinInt}, {math.MaxInt, math.MinInt}} {
			checkNoLoop(t, v, list)
		}
	}
}

// TestLoopsOfPartedNets checks loops of nets that are valid but not whole.
func TestLoopsOfPartedNets(t *testing.T) {
	loops := 0
	for _, v := range allLoopNets() {
		if wantedWhole(v.n, v.runs) {
			continue
		}
		for _, loop := range someLoops(v, 12) {
			loops++
			if got, fine := impl.LoopError(v.n, v.runs, loop); got != wantedError(v.runs, loop) || !fine {
				t.Errorf("LoopError(%d, %v, %v) is %d, %v", v.n, v.runs, loop, got, fine)
			}
		}
		if impl.LoopCloses(v.n, v.runs) || impl.LoopCloses(v.n, fittingRuns(v.runs, make([]int, v.n))) {
			t.Errorf("LoopCloses(%d, %v) holds", v.n, v.runs)
		}
	}
	if loops < 1000 {
		t.Errorf("only %d loops were checked", loops)
	}
}

// TestLoopArgumentsStay gives lists with room behind their ends, which must stay as well.
func TestLoopArgumentsStay(t *testing.T) {
	for _, v := range slices.Concat(loopNets(), treeNets(), mixedNets()) {
		for _, loop := range append(someLoops(v, 6), nil, []int{0, 0}) {
			room, listRoom := append(slices.Clone(v.runs), run(1, 0, 77, 3)), append(slices.Clone(loop), 77, 78)
			roomAhead, listAhead := slices.Clone(room), slices.Clone(listRoom)
			runs, list := room[:len(v.runs)], listRoom[:len(loop)]
			impl.LoopIs(v.n, runs, list)
			impl.LoopError(v.n, runs, list)
			impl.LoopCloses(v.n, runs)
			back, _ := impl.LoopBack(v.n, runs, list)
			spoil(back, -9)
			errors, _ := impl.LoopErrors(v.n, runs)
			spoil(errors, -9)
			for k := range runs {
				way, _ := impl.LoopOf(v.n, runs, k)
				spoil(way, -9)
			}
			if !slices.Equal(room, roomAhead) || !slices.Equal(listRoom, listAhead) {
				t.Fatalf("an argument is changed: %v, %v", room, listRoom)
			}
		}
	}
}

// TestLoopResultsAreNew overwrites one of two results and wants the other one to stay.
func TestLoopResultsAreNew(t *testing.T) {
	for _, v := range slices.Concat(loopNets(), treeNets(), mixedNets()) {
		checkNew(t, "LoopErrors", func() []int { list, _ := impl.LoopErrors(v.n, v.runs); return list })
		for k := range v.runs {
			checkNew(t, "LoopOf", func() []int { list, _ := impl.LoopOf(v.n, v.runs, k); return list })
		}
		for _, loop := range someLoops(v, 6) {
			checkNew(t, "LoopBack", func() []int { list, _ := impl.LoopBack(v.n, v.runs, loop); return list })
		}
	}
}

func checkNew(t *testing.T, name string, call func() []int) {
	t.Helper()
	checkNewList(t, name, -9, call)
}

// checkNewList overwrites a result and wants another one and that of a further call to stay.
func checkNewList[T comparable](t *testing.T, name string, with T, call func() []T) {
	t.Helper()
	first, second := call(), call()
	want := slices.Clone(second)
	spoil(first, with)
	if third := call(); !slices.Equal(second, want) || !slices.Equal(third, want) {
		t.Fatalf("%s is %v and then %v, wanted %v, behind a call whose result was changed", name, second, third, want)
	}
}
