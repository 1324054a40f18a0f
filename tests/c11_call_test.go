package tests

import (
	"slices"
	"testing"

	"loop.example/lettersthatarrive/impl"
)

// phoned has calls among n people.
type phoned struct {
	n     int
	calls [][]int
}

// notCallers has numbers of people among whom there are no calls.
var notCallers = []int{0, -1, -2, -7, 8, 9, 100, 1 << 32, 1 << 62, 1<<63 - 1, -1 << 63}

// brokenCalls has what are no calls, each for one reason.
var brokenCalls = []phoned{
	{1, [][]int{{0, 0}}}, {1, [][]int{{0, 1}}}, {1, [][]int{{1, 0}}}, {1, [][]int{{}}}, {1, [][]int{{0}}}, {1, [][]int{nil}},
	{2, [][]int{{0, 0}}}, {2, [][]int{{1, 1}}}, {2, [][]int{{0, 2}}}, {2, [][]int{{2, 0}}}, {2, [][]int{{-1, 0}}}, {2, [][]int{{0, -1}}}, {2, [][]int{{0}}}, {2, [][]int{nil}}, {2, [][]int{{0, 1, 0}}}, {2, [][]int{{0, 1, 1}}}, {2, slices.Repeat([][]int{{0, 1}}, 21)}, {2, slices.Repeat([][]int{{0, 1}}, 100)},
	{3, [][]int{{0, 1, 2}}}, {3, [][]int{{0, 1}, {2, 2}}}, {3, [][]int{{3, 1}, {0, 2}}}, {3, [][]int{{0, 1}, {1, 2}, {}}}, {4, [][]int{{0, 1}, {2, 3}, {0, 4}}}, {4, [][]int{{0, 1, 2, 3}}},
	{7, [][]int{{0, 7}}}, {7, [][]int{{7, 0}}}, {7, [][]int{{7, 8}}}, {7, [][]int{{6, 6}}}, {7, [][]int{{-1, -2}}}, {7, [][]int{{0, 1 << 32}}}, {7, [][]int{{1<<63 - 1, 0}}}, {7, [][]int{{0, -1 << 63}}}, {7, append(slices.Repeat([][]int{{5, 6}}, 20), []int{0, 1})},
}

// brokenHops has what are no hops.
var brokenHops = [][]int{
	nil, {}, {-1}, {11}, {12}, {100}, {1 << 32}, {1 << 62}, {1<<63 - 1}, {-1 << 63}, {0, 11}, {11, 0}, {0, -1}, {-1, 0}, {10, 11}, {10, -1}, {1, 2, 3, 4, 11}, {-1, 1, 2, 3, 4}, {1, 2, 11, 3, 4},
	{0, 0, 0, 0, 0, 0}, {1, 2, 3, 4, 5, 6}, {10, 10, 10, 10, 10, 10}, {5, 5, 5, 5, 5, 11}, make([]int, 7), make([]int, 100),
}

// wantedCalls returns what CallsFor is for each number of people.
func wantedCalls() []phoned {
	return []phoned{
		{1, nil}, {2, [][]int{{0, 1}}}, {3, [][]int{{2, 0}, {0, 1}, {0, 2}}}, {4, [][]int{{0, 1}, {2, 3}, {0, 2}, {1, 3}}},
		{5, [][]int{{4, 0}, {0, 1}, {2, 3}, {0, 2}, {1, 3}, {0, 4}}},
		{6, [][]int{{5, 0}, {4, 0}, {0, 1}, {2, 3}, {0, 2}, {1, 3}, {0, 4}, {0, 5}}},
		{7, [][]int{{6, 0}, {5, 0}, {4, 0}, {0, 1}, {2, 3}, {0, 2}, {1, 3}, {0, 4}, {0, 5}, {0, 6}}},
	}
}

// pairsOf returns all pairs of two different ones of n people, the first one the lesser one or, if it may be turned, in both orders.
func pairsOf(n int, turned bool) [][]int {
	var pairs [][]int
	for one := range n {
		for other := range n {
			if one < other || turned && one != other {
				pairs = append(pairs, []int{one, other})
			}
		}
	}
	return pairs
}

// allCalls returns all lists of so many calls, each one of some pairs.
func allCalls(n, count int, pairs [][]int) []phoned {
	var all []phoned
	for _, chosen := range allBoxes(count, len(pairs)) {
		calls := [][]int{}
		for _, pair := range chosen {
			calls = append(calls, pairs[pair])
		}
		all = append(all, phoned{n, calls})
	}
	return all
}

// drawnCalls returns calls that follow a rule: among two to seven people, none up to twenty of them.
func drawnCalls() []phoned {
	var all []phoned
	next := 1
	for n := 2; n <= 7; n++ {
		pairs := pairsOf(n, true)
		for count := range 21 {
			for range 200 {
				calls := [][]int{}
				for range count {
					next = (next*1103 + 12347) % 1000003
					calls = append(calls, pairs[next/7%len(pairs)])
				}
				all = append(all, phoned{n, calls})
			}
		}
	}
	return all
}

// nearlyWanted returns CallsFor with one call left out, one done twice, one turned, or two exchanged.
func nearlyWanted() []phoned {
	var all []phoned
	for _, p := range wantedCalls() {
		for i, call := range p.calls {
			all = append(all, phoned{p.n, slices.Delete(slices.Clone(p.calls), i, i+1)}, phoned{p.n, slices.Insert(slices.Clone(p.calls), i, call)})
			turned := slices.Clone(p.calls)
			turned[i] = backwards(call)
			all = append(all, phoned{p.n, turned})
			for k := range i {
				exchanged := slices.Clone(p.calls)
				exchanged[i], exchanged[k] = exchanged[k], exchanged[i]
				all = append(all, phoned{p.n, exchanged})
			}
		}
	}
	return all
}

// manyCalls returns all lists of few calls, CallsFor and what is nearly it, and longer lists.
func manyCalls() []phoned {
	all := []phoned{{1, nil}, {1, [][]int{}}}
	for count := range 5 {
		all = slices.Concat(all, allCalls(2, count, pairsOf(2, true)), allCalls(3, count, pairsOf(3, true)), allCalls(4, count, pairsOf(4, false)), allCalls(5, count, pairsOf(5, false)))
	}
	for n := 4; n <= 7; n++ {
		all = append(all, allCalls(n, 2, pairsOf(n, true))...)
	}
	return slices.Concat(all, wantedCalls(), nearlyWanted(), drawnCalls())
}

// rightKnown follows the news of each one alone from call to call.
func rightKnown(n int, calls [][]int) []int {
	known := make([]int, n)
	for news := range n {
		heard := make([]bool, n)
		heard[news] = true
		for _, call := range calls {
			if heard[call[0]] || heard[call[1]] {
				heard[call[0]], heard[call[1]] = true, true
			}
		}
		power := 1
		for range news {
			power *= 2
		}
		for _, one := range placesOf(heard) {
			known[one] += power
		}
	}
	return known
}

// allKnow reports whether each one of n people knows all.
func allKnow(known []int) bool {
	all := []int{0, 1, 3, 7, 15, 31, 63, 127}[len(known)]
	return !slices.ContainsFunc(known, func(news int) bool { return news != all })
}

// renamed gives people other names, by how many they know and by how many know them, so that what differs by names alone is mostly the same.
func renamed(known [7]int, n int) [7]int {
	marks := make([]int, n)
	for one := range n {
		for other := range n {
			marks[one] += 8*(known[one]>>other&1) + known[other]>>one&1
		}
	}
	names := inOrder(n)
	slices.SortFunc(names, func(one, other int) int { return marks[one] - marks[other] })
	var with [7]int
	for i, one := range names {
		for k, other := range names {
			with[i] |= known[one] >> other & 1 << k
		}
	}
	return with
}

// rightFewestCalls goes from what may be known behind some calls to what may be known behind one more, until all may know all.
func rightFewestCalls(n int) int {
	var first [7]int
	for one := range n {
		first[one] = 1 << one
	}
	seen := map[[7]int]bool{first: true}
	for calls, level := 0, [][7]int{first}; ; calls++ {
		var behind [][7]int
		for _, known := range level {
			if allKnow(known[:n]) {
				return calls
			}
			for _, pair := range pairsOf(n, false) {
				next := known
				next[pair[0]] |= known[pair[1]]
				next[pair[1]] |= known[pair[0]]
				if next = renamed(next, n); !seen[next] {
					seen[next] = true
					behind = append(behind, next)
				}
			}
		}
		level = behind
	}
}

// eachHops calls be with all lists of hops.
func eachHops(be func(list []int)) {
	for n := 1; n <= 5; n++ {
		for _, list := range allBoxes(n, 11) {
			be(list)
		}
	}
}

// rightHops counts, of as many letters as can be lost in equal parts, those that arrive and those that are lost at each hop.
func rightHops(list []int) (all, arrived int, lost []int) {
	all = 1
	for range list {
		all *= 10
	}
	arrived = all
	for _, hop := range list {
		lost = append(lost, arrived/10*hop)
		arrived -= arrived / 10 * hop
	}
	return all, arrived, lost
}

// isReduced reports whether a fraction is one without a common factor, from 0 to 1.
func isReduced(f impl.Frac) bool {
	return f.Down >= 1 && f.Up >= 0 && f.Up <= f.Down && commonFactor(f.Up, f.Down) == 1
}

// isChance reports whether a fraction is so many of all, without a common factor.
func isChance(f impl.Frac, some, all int) bool {
	return isReduced(f) && f.Up*all == some*f.Down
}

// productIs reports whether a fraction is two other ones times each other.
func productIs(f, one, other impl.Frac) bool {
	return isChance(f, one.Up*other.Up, one.Down*other.Down)
}

func TestLimitsOfCalls(t *testing.T) {
	if impl.MaxCallers != 7 || impl.MaxCalls != 20 || impl.HopParts != 10 || impl.MaxHops != 5 {
		t.Error("a limit of chapter 11 is not that of the document")
	}
}

func TestValidCallsKnown(t *testing.T) {
	for _, p := range []phoned{
		{1, nil}, {1, [][]int{}}, {2, nil}, {2, [][]int{{0, 1}}}, {2, [][]int{{1, 0}}}, {2, [][]int{{0, 1}, {1, 0}, {0, 1}}}, {3, [][]int{{2, 0}, {1, 2}}}, {7, nil}, {7, [][]int{{6, 5}, {0, 6}}}, {2, slices.Repeat([][]int{{0, 1}}, 20)}, {7, slices.Repeat([][]int{{6, 3}}, 20)},
	} {
		if !impl.ValidCalls(p.n, p.calls) {
			t.Errorf("ValidCalls(%d, %v) is false", p.n, p.calls)
		}
	}
	for _, p := range brokenCalls {
		if impl.ValidCalls(p.n, p.calls) {
			t.Errorf("ValidCalls(%d, %v) is true", p.n, p.calls)
		}
	}
}

func TestWhatIsACall(t *testing.T) {
	check := func(n int, calls [][]int, want bool) {
		t.Helper()
		if got := impl.ValidCalls(n, calls); got != want {
			t.Errorf("ValidCalls(%d, %v) is %t", n, calls, got)
		}
	}
	for n := -3; n <= 12; n++ {
		callers := n >= 1 && n <= 7
		check(n, nil, callers)
		check(n, [][]int{{0, 1}}, callers && n >= 2)
		for one := -3; one <= 12; one++ {
			for other := -3; other <= 12; other++ {
				right := callers && min(one, other) >= 0 && max(one, other) < n && one != other
				check(n, [][]int{{one, other}}, right)
				// Beside others, at each place, too.
				for place := range 4 {
					check(n, slices.Insert([][]int{{0, 1}, {1, 0}, {0, 1}}, place, []int{one, other}), right)
				}
			}
		}
	}
	for n := 2; n <= 7; n++ {
		for count := range 30 {
			check(n, slices.Repeat([][]int{{n - 1, 0}}, count), count <= 20)
		}
		for length := range 7 {
			check(n, [][]int{[]int{1, 0, 1, 0, 1, 0}[:length]}, length == 2)
		}
	}
}

func TestCallsOfOthers(t *testing.T) {
	for _, p := range brokenCalls {
		if got := impl.KnownAfter(p.n, p.calls); len(got) != 0 {
			t.Errorf("KnownAfter(%d, %v) = %v, not nothing", p.n, p.calls, got)
		}
	}
	for _, n := range notCallers {
		for _, calls := range [][][]int{nil, {}, {{0, 1}}, {{0, 0}}, {nil}} {
			if impl.ValidCalls(n, calls) {
				t.Errorf("ValidCalls(%d, %v) is true", n, calls)
			}
			if got := impl.KnownAfter(n, calls); len(got) != 0 {
				t.Errorf("KnownAfter(%d, %v) = %v, not nothing", n, calls, got)
			}
		}
		if got := impl.CallsFor(n); len(got) != 0 {
			t.Errorf("CallsFor(%d) = %v, not nothing", n, got)
		}
		if got := impl.FewestCalls(n); got != -1 {
			t.Errorf("FewestCalls(%d) = %d, not -1", n, got)
		}
		if got := impl.CallsTried(n); got != -1 {
			t.Errorf("CallsTried(%d) = %d, not -1", n, got)
		}
	}
	for n := 5; n <= 7; n++ {
		if got := impl.CallsTried(n); got != -1 {
			t.Errorf("CallsTried(%d) = %d, not -1", n, got)
		}
	}
}

func TestKnownAfterKnown(t *testing.T) {
	for _, c := range []struct {
		phoned
		want []int
	}{
		{phoned{1, nil}, []int{1}}, {phoned{2, nil}, []int{1, 2}}, {phoned{2, [][]int{{0, 1}}}, []int{3, 3}}, {phoned{2, [][]int{{1, 0}, {0, 1}}}, []int{3, 3}}, {phoned{7, [][]int{}}, []int{1, 2, 4, 8, 16, 32, 64}},
		// Each call tells what is known by then, and no more.
		{phoned{3, [][]int{{0, 1}, {1, 2}}}, []int{3, 7, 7}}, {phoned{3, [][]int{{1, 2}, {0, 1}}}, []int{7, 7, 6}}, {phoned{3, [][]int{{1, 2}, {2, 0}}}, []int{7, 6, 7}}, {phoned{3, [][]int{{2, 0}, {0, 1}, {0, 2}}}, []int{7, 7, 7}},
		{phoned{4, [][]int{{0, 1}, {2, 3}}}, []int{3, 3, 12, 12}}, {phoned{4, [][]int{{0, 1}, {2, 3}, {3, 0}}}, []int{15, 3, 12, 15}}, {phoned{4, [][]int{{0, 1}, {2, 3}, {0, 2}, {1, 3}}}, []int{15, 15, 15, 15}}, {phoned{5, [][]int{{4, 3}, {3, 2}, {2, 1}, {1, 0}}}, []int{31, 31, 30, 28, 24}},
		{phoned{7, [][]int{{0, 1}, {1, 2}, {2, 3}, {3, 4}, {4, 5}, {5, 6}}}, []int{3, 7, 15, 31, 63, 127, 127}}, {phoned{7, slices.Repeat([][]int{{2, 6}}, 20)}, []int{1, 2, 68, 8, 16, 32, 68}},
	} {
		if got := impl.KnownAfter(c.n, c.calls); !slices.Equal(got, c.want) {
			t.Errorf("KnownAfter(%d, %v) = %v, not %v", c.n, c.calls, got, c.want)
		}
	}
}

func TestKnownAfterManyCalls(t *testing.T) {
	for _, p := range manyCalls() {
		if got, want := impl.KnownAfter(p.n, p.calls), rightKnown(p.n, p.calls); !slices.Equal(got, want) {
			t.Fatalf("KnownAfter(%d, %v) = %v, not %v", p.n, p.calls, got, want)
		}
	}
}

// Also one person, who knows all without a call, and three people, who have a core of two.
func TestCallsForKnown(t *testing.T) {
	for _, p := range wantedCalls() {
		if got := impl.CallsFor(p.n); !slices.EqualFunc(got, p.calls, slices.Equal[[]int]) {
			t.Errorf("CallsFor(%d) = %v, not %v", p.n, got, p.calls)
		}
	}
}

func TestFewestCallsKnown(t *testing.T) {
	for n, want := range []int{-1, 0, 1, 3, 4, 6, 8, 10, -1} {
		if got := impl.FewestCalls(n); got != want {
			t.Errorf("FewestCalls(%d) = %d, not %d", n, got, want)
		}
	}
	for n, want := range []int{-1, 0, 1, 3, 4, -1, -1, -1, -1} {
		if got := impl.CallsTried(n); got != want {
			t.Errorf("CallsTried(%d) = %d, not %d", n, got, want)
		}
	}
}

// Promise 59.
func TestCallsCanBeLeftOut(t *testing.T) {
	for _, p := range manyCalls() {
		for count := len(p.calls); count >= 0; count-- {
			if !impl.ValidCalls(p.n, p.calls[:count]) {
				t.Fatalf("ValidCalls(%d, %v) is false", p.n, p.calls[:count])
			}
		}
	}
}

// Promise 60.
func TestNewsIsNotForgotten(t *testing.T) {
	knowing := map[int]int{}
	for _, p := range manyCalls() {
		known := impl.KnownAfter(p.n, p.calls)
		if len(known) != p.n {
			t.Fatalf("KnownAfter(%d, %v) = %v", p.n, p.calls, known)
		}
		for one, news := range known {
			if news>>one&1 != 1 {
				t.Fatalf("KnownAfter(%d, %v) = %v: %d has not the own news", p.n, p.calls, known, one)
			}
		}
		if len(p.calls) > 0 {
			ahead := impl.KnownAfter(p.n, p.calls[:len(p.calls)-1])
			for one, news := range ahead {
				if known[one]&news != news {
					t.Fatalf("KnownAfter(%d, %v) = %v, but ahead of the last call it is %v", p.n, p.calls, known, ahead)
				}
			}
		}
		if allKnow(known) {
			knowing[p.n]++
			if fewest := impl.FewestCalls(p.n); len(p.calls) < fewest {
				t.Fatalf("behind %v all of %d people know all, but FewestCalls is %d", p.calls, p.n, fewest)
			}
		}
	}
	for n := 2; n <= 7; n++ {
		if knowing[n] < 30 {
			t.Fatalf("only behind %d lists of calls all of %d people know all", knowing[n], n)
		}
	}
}

// Promise 61.
func TestCallsForAllAreEnoughAndFewest(t *testing.T) {
	for n := 1; n <= 7; n++ {
		calls := impl.CallsFor(n)
		if !impl.ValidCalls(n, calls) {
			t.Errorf("ValidCalls(%d, %v) is false", n, calls)
		}
		if known := impl.KnownAfter(n, calls); len(known) != n || !allKnow(known) || !allKnow(rightKnown(n, calls)) {
			t.Errorf("KnownAfter(%d, %v) = %v", n, calls, known)
		}
		if fewest := impl.FewestCalls(n); len(calls) != fewest {
			t.Errorf("CallsFor(%d) = %v, but FewestCalls is %d", n, calls, fewest)
		}
	}
}

// Promise 62: also against trying here, for all numbers of people.
func TestFewestCallsAreThoseThatAreTried(t *testing.T) {
	for n := 1; n <= 7; n++ {
		if got, want := impl.FewestCalls(n), rightFewestCalls(n); got != want {
			t.Errorf("FewestCalls(%d) = %d, not %d", n, got, want)
		}
	}
	for n := 1; n <= 4; n++ {
		if got, want := impl.CallsTried(n), impl.FewestCalls(n); got != want {
			t.Errorf("CallsTried(%d) = %d, but FewestCalls is %d", n, got, want)
		}
	}
	for n := 2; n <= 7; n++ {
		if more := impl.FewestCalls(n) - impl.FewestCalls(n-1); more != 1 && more != 2 {
			t.Errorf("FewestCalls(%d) is %d more than with one less", n, more)
		}
	}
}

// Promise 63.
func TestAllCallsThatAreTriedAreNotFewer(t *testing.T) {
	for n := 1; n <= 4; n++ {
		if got, calls := impl.CallsTried(n), impl.CallsFor(n); got != len(calls) {
			t.Errorf("CallsTried(%d) = %d, but CallsFor is %v", n, got, calls)
		}
	}
}

// Promise 84.
func TestCallsBackwardsTellWhomOneHasTold(t *testing.T) {
	for _, p := range manyCalls() {
		other := slices.Clone(p.calls)
		slices.Reverse(other)
		known, told := impl.KnownAfter(p.n, p.calls), impl.KnownAfter(p.n, other)
		if len(known) != p.n || len(told) != p.n {
			t.Fatalf("KnownAfter(%d, %v) = %v, and backwards %v", p.n, p.calls, known, told)
		}
		for one := range p.n {
			for news := range p.n {
				if known[one]>>news&1 != told[news]>>one&1 {
					t.Fatalf("KnownAfter(%d, %v) = %v, and backwards %v: %d and %d", p.n, p.calls, known, told, one, news)
				}
			}
		}
	}
}

func TestHopsKnown(t *testing.T) {
	for _, c := range []struct {
		list    []int
		arrives impl.Frac
		lost    []impl.Frac
	}{
		{[]int{1}, impl.Frac{Up: 9, Down: 10}, []impl.Frac{{Up: 1, Down: 1}}}, {[]int{5}, impl.Frac{Up: 1, Down: 2}, []impl.Frac{{Up: 1, Down: 1}}}, {[]int{8}, impl.Frac{Up: 1, Down: 5}, []impl.Frac{{Up: 1, Down: 1}}},
		{[]int{1, 2}, impl.Frac{Up: 18, Down: 25}, []impl.Frac{{Up: 5, Down: 14}, {Up: 9, Down: 14}}}, {[]int{2, 1}, impl.Frac{Up: 18, Down: 25}, []impl.Frac{{Up: 5, Down: 7}, {Up: 2, Down: 7}}}, {[]int{5, 5}, impl.Frac{Up: 1, Down: 4}, []impl.Frac{{Up: 2, Down: 3}, {Up: 1, Down: 3}}},
		{[]int{9, 9, 9, 9, 9}, impl.Frac{Up: 1, Down: 100000}, []impl.Frac{{Up: 10000, Down: 11111}, {Up: 1000, Down: 11111}, {Up: 100, Down: 11111}, {Up: 10, Down: 11111}, {Up: 1, Down: 11111}}}, {[]int{1, 1, 1, 1, 1}, impl.Frac{Up: 59049, Down: 100000}, []impl.Frac{{Up: 10000, Down: 40951}, {Up: 9000, Down: 40951}, {Up: 8100, Down: 40951}, {Up: 7290, Down: 40951}, {Up: 6561, Down: 40951}}},
		// A hop that loses none, at each place.
		{[]int{0, 3}, impl.Frac{Up: 7, Down: 10}, []impl.Frac{{Up: 0, Down: 1}, {Up: 1, Down: 1}}}, {[]int{3, 0}, impl.Frac{Up: 7, Down: 10}, []impl.Frac{{Up: 1, Down: 1}, {Up: 0, Down: 1}}}, {[]int{5, 0, 5}, impl.Frac{Up: 1, Down: 4}, []impl.Frac{{Up: 2, Down: 3}, {Up: 0, Down: 1}, {Up: 1, Down: 3}}},
		// A hop that loses all, behind which none is left to be lost.
		{[]int{10}, impl.Frac{Up: 0, Down: 1}, []impl.Frac{{Up: 1, Down: 1}}}, {[]int{10, 2}, impl.Frac{Up: 0, Down: 1}, []impl.Frac{{Up: 1, Down: 1}, {Up: 0, Down: 1}}}, {[]int{2, 10}, impl.Frac{Up: 0, Down: 1}, []impl.Frac{{Up: 1, Down: 5}, {Up: 4, Down: 5}}}, {[]int{0, 10, 0}, impl.Frac{Up: 0, Down: 1}, []impl.Frac{{Up: 0, Down: 1}, {Up: 1, Down: 1}, {Up: 0, Down: 1}}}, {[]int{10, 10, 10, 10, 10}, impl.Frac{Up: 0, Down: 1}, []impl.Frac{{Up: 1, Down: 1}, {Up: 0, Down: 1}, {Up: 0, Down: 1}, {Up: 0, Down: 1}, {Up: 0, Down: 1}}},
	} {
		if got, ok := impl.ArriveChance(c.list); !ok || got != c.arrives {
			t.Errorf("ArriveChance(%v) = %v, %t, not %v", c.list, got, ok, c.arrives)
		}
		if got, ok := impl.LostAt(c.list); !ok || !slices.Equal(got, c.lost) {
			t.Errorf("LostAt(%v) = %v, %t, not %v", c.list, got, ok, c.lost)
		}
	}
}

func TestHopsThatLoseNone(t *testing.T) {
	for n := 1; n <= 5; n++ {
		list := make([]int, n)
		if got, ok := impl.ArriveChance(list); !ok || got != (impl.Frac{Up: 1, Down: 1}) {
			t.Errorf("ArriveChance(%v) = %v, %t", list, got, ok)
		}
		if got, ok := impl.LostAt(list); ok || len(got) != 0 {
			t.Errorf("LostAt(%v) = %v, %t", list, got, ok)
		}
	}
}

func TestHopsOfOthers(t *testing.T) {
	check := func(list []int) {
		t.Helper()
		if got, ok := impl.ArriveChance(list); ok || got != (impl.Frac{}) {
			t.Errorf("ArriveChance(%v) = %v, %t", list, got, ok)
		}
		if got, ok := impl.LostAt(list); ok || len(got) != 0 {
			t.Errorf("LostAt(%v) = %v, %t", list, got, ok)
		}
	}
	for _, list := range brokenHops {
		check(list)
	}
	for n := 1; n <= 5; n++ {
		for place := range n {
			for _, other := range []int{-1, -2, -10, 11, 12, 20, 1 << 32, 1 << 62, 1<<63 - 1, -1 << 63} {
				for hop := range 11 {
					list := slices.Repeat([]int{hop}, n)
					list[place] = other
					check(list)
				}
			}
		}
	}
	for n := 6; n < 20; n++ {
		for hop := range 11 {
			check(slices.Repeat([]int{hop}, n))
		}
	}
}

// All lists of hops.
func TestHopsCounted(t *testing.T) {
	eachHops(func(list []int) {
		all, arrived, lost := rightHops(list)
		if got, ok := impl.ArriveChance(list); !ok || !isChance(got, arrived, all) {
			t.Fatalf("ArriveChance(%v) = %v, %t, not %d of %d", list, got, ok, arrived, all)
		}
		got, ok := impl.LostAt(list)
		if arrived == all {
			if ok || len(got) != 0 {
				t.Fatalf("LostAt(%v) = %v, %t, but none is lost", list, got, ok)
			}
			return
		}
		if !ok || len(got) != len(list) {
			t.Fatalf("LostAt(%v) = %v, %t", list, got, ok)
		}
		for hop, chance := range got {
			if !isChance(chance, lost[hop], all-arrived) {
				t.Fatalf("LostAt(%v) = %v, but at %d %d of %d are lost", list, got, hop, lost[hop], all-arrived)
			}
		}
	})
}

// Promise 64.
func TestHopsAreInAnyOrder(t *testing.T) {
	eachHops(func(list []int) {
		whole, ok := impl.ArriveChance(list)
		if other, otherOk := impl.ArriveChance(backwards(list)); !ok || !otherOk || other != whole {
			t.Fatalf("ArriveChance(%v) = %v, but backwards %v", list, whole, other)
		}
		for cut := 1; cut < len(list); cut++ {
			one, oneOk := impl.ArriveChance(list[:cut])
			other, otherOk := impl.ArriveChance(list[cut:])
			if !oneOk || !otherOk || !productIs(whole, one, other) {
				t.Fatalf("ArriveChance(%v) = %v, but of its parts %v and %v", list, whole, one, other)
			}
		}
	})
}

// Promise 65.
func TestLostLettersWereLostSomewhere(t *testing.T) {
	eachHops(func(list []int) {
		lost, ok := impl.LostAt(list)
		if !ok {
			return
		}
		sum := impl.Frac{Up: 0, Down: 1}
		for hop, chance := range lost {
			if !isReduced(chance) {
				t.Fatalf("LostAt(%v) = %v", list, lost)
			}
			if list[hop] == 0 && chance != (impl.Frac{Up: 0, Down: 1}) {
				t.Fatalf("LostAt(%v) = %v, but %d loses none", list, lost, hop)
			}
			sum.Up, sum.Down = sum.Up*chance.Down+chance.Up*sum.Down, sum.Down*chance.Down
			common := commonFactor(sum.Up, sum.Down)
			sum.Up, sum.Down = sum.Up/common, sum.Down/common
		}
		if sum != (impl.Frac{Up: 1, Down: 1}) {
			t.Fatalf("LostAt(%v) = %v are together %v", list, lost, sum)
		}
	})
}

// Promise 85.
func TestLostAndArrivedIsAll(t *testing.T) {
	eachHops(func(list []int) {
		arrives, ok := impl.ArriveChance(list)
		lost, some := impl.LostAt(list)
		if !ok || some != slices.ContainsFunc(list, func(hop int) bool { return hop > 0 }) {
			t.Fatalf("ArriveChance(%v) = %v, %t, and LostAt %v, %t", list, arrives, ok, lost, some)
		}
		if some && lost[0].Up*(arrives.Down-arrives.Up)*10 != list[0]*lost[0].Down*arrives.Down {
			t.Fatalf("ArriveChance(%v) = %v, and LostAt %v: %d of 10 are lost at the first hop", list, arrives, lost, list[0])
		}
	})
}

func TestCallsAreNotChangedNorKept(t *testing.T) {
	whole := [][]int{{2, 0, 50, 51}, {0, 1}, {1, 3, 60}, {3, 2}, {70, 71}}
	calls := [][]int{whole[0][:2], whole[1], whole[2][:2], whole[3]}
	before, some := cloneGroups(whole), cloneGroups(calls)
	unchanged := func(what string) {
		t.Helper()
		if !sameGroups(whole, before) || !sameGroups(calls, some) {
			t.Fatalf("%s: the calls became %v, and what they are of %v", what, calls, whole)
		}
	}
	impl.ValidCalls(4, calls)
	unchanged("ValidCalls")
	checkFresh(t, "KnownAfter", func() []int { return impl.KnownAfter(4, calls) }, []int{7, 15, 15, 15})
	unchanged("KnownAfter")
	for _, p := range wantedCalls() {
		for i := range p.calls {
			got := impl.CallsFor(p.n)
			spoil(got[i])
			got[i] = p.calls[i]
			if !sameGroups(got, p.calls) {
				t.Fatalf("what was done to the call %d made the calls %v", i, got)
			}
		}
		if got := impl.CallsFor(p.n); !sameGroups(got, p.calls) {
			t.Fatalf("CallsFor keeps what was done to its result: %v", got)
		}
	}
}

func TestHopsAreNotChangedNorKept(t *testing.T) {
	whole := []int{2, 5, 0, 10, 50, 51}
	list := whole[:4]
	want := []impl.Frac{{Up: 1, Down: 5}, {Up: 2, Down: 5}, {Up: 0, Down: 1}, {Up: 2, Down: 5}}
	first, _ := impl.LostAt(list)
	for range 2 {
		impl.ArriveChance(list)
		got, ok := impl.LostAt(list)
		if !ok || !slices.Equal(got, want) {
			t.Fatalf("LostAt keeps what was done to its result: %v", got)
		}
		got = got[:cap(got)]
		for i := range got {
			got[i] = impl.Frac{Up: -7, Down: -7}
		}
		if !slices.Equal(whole, []int{2, 5, 0, 10, 50, 51}) {
			t.Fatalf("the hops became %v", whole)
		}
	}
	if !slices.Equal(first, want) {
		t.Fatalf("what was done to another result made the first one %v", first)
	}
}
