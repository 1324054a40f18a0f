package tests

import (
	"maps"
	"slices"
	"testing"

	"loop.example/lettersthatarrive/impl"
)

// notStamps has what are not stamps, each for one reason.
var notStamps = [][]int{
	nil, {},
	{0}, {-1}, {-12}, {13}, {14}, {140}, {1 << 62}, {-1 << 63},
	{0, 1}, {0, 12}, {-1, 1}, {1, 13}, {12, 13}, {1, 1 << 62}, {-1 << 63, 12}, {0, 1, 2}, {-5, 3, 7}, {1, 2, 13}, {0, 1, 2, 3}, {1, 2, 3, 13}, {9, 10, 11, 1<<63 - 1},
	{1, 1}, {3, 3}, {12, 12}, {1, 5, 5}, {5, 5, 6}, {1, 1, 2, 3}, {1, 2, 2, 3}, {1, 2, 3, 3}, {4, 4, 4, 4},
	{2, 1}, {5, 3}, {12, 1}, {1, 5, 4}, {2, 1, 3}, {5, 1, 12}, {4, 3, 2, 1}, {2, 1, 3, 4}, {1, 3, 2, 4}, {1, 2, 4, 3},
	{1, 2, 3, 4, 5}, {8, 9, 10, 11, 12}, {1, 4, 5, 8, 12}, {1, 3, 5, 7, 9, 11}, {1, 2, 3, 4, 5, 6, 7, 8, 9, 10, 11, 12},
}

// notRates has what are no rates.
var notRates = []int{-1, -2, -140, 141, 142, 282, 1 << 62, 1<<63 - 1, -1 << 63}

// notOnLetter has what are no numbers of stamps on a letter.
var notOnLetter = []int{0, -1, -6, 7, 8, 12, 1 << 62, 1<<63 - 1, -1 << 63}

// allStamps returns all stamps: each value is among them or not, and at least one and at most four are.
func allStamps() [][]int {
	var lists [][]int
	for set := range 1 << 12 {
		var v []int
		for stamp := 1; stamp <= 12; stamp++ {
			if set>>(stamp-1)&1 == 1 {
				v = append(v, stamp)
			}
		}
		if len(v) >= 1 && len(v) <= 4 {
			lists = append(lists, v)
		}
	}
	return lists
}

// everyLetter puts stamps on a letter in all ways, each one as often as needed, and calls be with their values together and their number.
func everyLetter(v []int, values, count int, be func(values, count int)) {
	if len(v) == 0 {
		be(values, count)
		return
	}
	for ; values <= 140; values, count = values+v[0], count+1 {
		everyLetter(v[1:], values, count, be)
	}
}

// rightStamps looks at all letters, and returns the fewest stamps for each rate.
func rightStamps(v []int) []int {
	fewest := slices.Repeat([]int{-1}, 141)
	everyLetter(v, 0, 0, func(values, count int) {
		if fewest[values] < 0 || count < fewest[values] {
			fewest[values] = count
		}
	})
	return fewest
}

// rightGreedy takes one stamp after the other.
func rightGreedy(v []int, rate int) int {
	count := 0
	for left := rate; left > 0; count++ {
		greatest := 0
		for _, stamp := range v {
			if stamp <= left {
				greatest = max(greatest, stamp)
			}
		}
		if greatest == 0 {
			return -1
		}
		left -= greatest
	}
	return count
}

// rightReach puts one stamp after the other on all letters, and counts up to the first rate that is on none.
func rightReach(v []int, most int) int {
	made := map[int]bool{0: true}
	for range most {
		for rate := range maps.Clone(made) {
			for _, stamp := range v {
				made[rate+stamp] = true
			}
		}
	}
	reach := 0
	for made[reach+1] {
		reach++
	}
	return reach
}

// noMore reports whether a number of stamps, -1 for none that are enough, is no more than another one.
func noMore(count, other int) bool {
	return other < 0 || count >= 0 && count <= other
}

func TestLimitsOfStamps(t *testing.T) {
	if impl.MaxStamp != 12 || impl.MaxKinds != 4 || impl.MaxRate != 140 || impl.MaxOnLetter != 6 {
		t.Error("a limit of chapter 6 is not that of the document")
	}
}

func TestValidStamps(t *testing.T) {
	valid := allStamps()
	if len(valid) != 793 {
		t.Fatalf("there are %d lists of stamps", len(valid))
	}
	for _, v := range valid {
		if !impl.ValidStamps(v) {
			t.Errorf("ValidStamps(%v) is false", v)
		}
	}
	for _, v := range notStamps {
		if impl.ValidStamps(v) {
			t.Errorf("ValidStamps(%v) is true", v)
		}
	}
}

// All lists of up to three numbers about the limits, and of four and five numbers of a few, are held against the lists of stamps.
func TestValidStampsOfAllNumbers(t *testing.T) {
	isStamps := map[string]bool{}
	for _, v := range allStamps() {
		isStamps[rowName(v)] = true
	}
	few := []int{0, 1, 2, 6, 7, 12, 13}
	lists := [][]int{{}}
	for length := 1; length <= 5; length++ {
		numbers := few
		if length <= 3 {
			numbers = []int{-1, 0, 1, 2, 3, 4, 5, 6, 7, 8, 9, 10, 11, 12, 13, 14}
		}
		var longer [][]int
		for _, list := range lists {
			for _, n := range numbers {
				if v := append(slices.Clone(list), n); length <= 3 || !slices.ContainsFunc(v, func(n int) bool { return !slices.Contains(few, n) }) {
					longer = append(longer, v)
				}
			}
		}
		lists = longer
		for _, v := range lists {
			if got, want := impl.ValidStamps(v), isStamps[rowName(v)]; got != want {
				t.Fatalf("ValidStamps(%v) is %t", v, got)
			}
		}
	}
}

// checkNoStamps checks the fixed results for what are not stamps.
func checkNoStamps(t *testing.T, v []int) {
	t.Helper()
	for _, rate := range append([]int{0, 1, 5, 12, 13, 139, 140}, notRates...) {
		if got := impl.FewestStamps(v, rate); got != -1 {
			t.Errorf("FewestStamps(%v, %d) = %d, not -1", v, rate, got)
		}
		if got := impl.GreedyStamps(v, rate); got != -1 {
			t.Errorf("GreedyStamps(%v, %d) = %d, not -1", v, rate, got)
		}
	}
	for _, most := range append([]int{1, 2, 3, 4, 5, 6}, notOnLetter...) {
		if got := impl.ReachOf(v, most); got != -1 {
			t.Errorf("ReachOf(%v, %d) = %d, not -1", v, most, got)
		}
	}
	if got := impl.FirstWaste(v); got != -1 {
		t.Errorf("FirstWaste(%v) = %d, not -1", v, got)
	}
	if got := impl.NotPaid(v); len(got) != 0 {
		t.Errorf("NotPaid(%v) = %v, not nothing", v, got)
	}
}

func TestStampsOfOthers(t *testing.T) {
	for _, v := range notStamps {
		checkNoStamps(t, v)
	}
	for _, v := range allStamps() {
		for _, rate := range notRates {
			if got := impl.FewestStamps(v, rate); got != -1 {
				t.Errorf("FewestStamps(%v, %d) = %d, not -1", v, rate, got)
			}
			if got := impl.GreedyStamps(v, rate); got != -1 {
				t.Errorf("GreedyStamps(%v, %d) = %d, not -1", v, rate, got)
			}
		}
		for _, most := range notOnLetter {
			if got := impl.ReachOf(v, most); got != -1 {
				t.Errorf("ReachOf(%v, %d) = %d, not -1", v, most, got)
			}
		}
	}
	for _, most := range notOnLetter {
		if pair, reach := impl.BestPair(most); len(pair) != 0 || reach != -1 {
			t.Errorf("BestPair(%d) = %v, %d, not nothing and -1", most, pair, reach)
		}
	}
}

// Promise 30.
func TestStampsCanBeLeftOut(t *testing.T) {
	for _, v := range allStamps() {
		for n := len(v); n >= 1; n-- {
			if !impl.ValidStamps(v[:n]) {
				t.Fatalf("ValidStamps(%v) is false", v[:n])
			}
		}
		if impl.ValidStamps(v[:0]) {
			t.Fatalf("ValidStamps(%v) is true", v[:0])
		}
	}
}

func TestStampsKnown(t *testing.T) {
	for _, c := range []struct {
		v                    []int
		rate, fewest, greedy int
	}{
		{[]int{1, 4, 5}, 0, 0, 0}, {[]int{1, 4, 5}, 7, 3, 3}, {[]int{1, 4, 5}, 8, 2, 4}, {[]int{1, 4, 5}, 12, 3, 4}, {[]int{1, 4, 5}, 140, 28, 28},
		{[]int{1}, 0, 0, 0}, {[]int{1}, 1, 1, 1}, {[]int{1}, 139, 139, 139}, {[]int{1}, 140, 140, 140},
		{[]int{12}, 0, 0, 0}, {[]int{12}, 11, -1, -1}, {[]int{12}, 12, 1, 1}, {[]int{12}, 132, 11, 11}, {[]int{12}, 140, -1, -1},
		{[]int{5}, 7, -1, -1}, {[]int{5}, 140, 28, 28}, {[]int{3, 5}, 6, 2, -1}, {[]int{3, 5}, 7, -1, -1}, {[]int{3, 5}, 9, 3, -1}, {[]int{3, 5}, 139, 29, -1}, {[]int{3, 5}, 140, 28, 28},
		{[]int{11, 12}, 1, -1, -1}, {[]int{11, 12}, 22, 2, -1}, {[]int{11, 12}, 23, 2, 2}, {[]int{11, 12}, 109, -1, -1}, {[]int{11, 12}, 110, 10, -1}, {[]int{11, 12}, 132, 11, 11}, {[]int{11, 12}, 140, 12, -1},
		{[]int{1, 2, 11, 12}, 22, 2, 6}, {[]int{1, 5, 11, 12}, 70, 6, 7}, {[]int{1, 5, 11, 12}, 33, 3, 7}, {[]int{9, 10, 11, 12}, 8, -1, -1}, {[]int{9, 10, 11, 12}, 18, 2, -1}, {[]int{9, 10, 11, 12}, 25, -1, -1}, {[]int{9, 10, 11, 12}, 140, 12, -1},
		{[]int{2, 4}, 139, -1, -1}, {[]int{2, 4}, 138, 35, 35}, {[]int{1, 2}, 3, 2, 2}, {[]int{1, 12}, 11, 11, 11},
	} {
		if got := impl.FewestStamps(c.v, c.rate); got != c.fewest {
			t.Errorf("FewestStamps(%v, %d) = %d, not %d", c.v, c.rate, got, c.fewest)
		}
		if got := impl.GreedyStamps(c.v, c.rate); got != c.greedy {
			t.Errorf("GreedyStamps(%v, %d) = %d, not %d", c.v, c.rate, got, c.greedy)
		}
	}
}

// Nothing has to be put on a letter of the rate 0, whatever the stamps are.
func TestTheRate0(t *testing.T) {
	for _, v := range allStamps() {
		if fewest, greedy := impl.FewestStamps(v, 0), impl.GreedyStamps(v, 0); fewest != 0 || greedy != 0 {
			t.Errorf("of %v the rate 0 takes %d stamps, and %d the greatest first", v, fewest, greedy)
		}
		if impl.FirstWaste(v) == 0 || slices.Contains(impl.NotPaid(v), 0) {
			t.Errorf("of %v the rate 0 is wasted or not paid", v)
		}
	}
}

// With the stamp 1 all rates are made, and without it the rate 1 is not.
func TestTheStamp1(t *testing.T) {
	for _, v := range allStamps() {
		paid := len(impl.NotPaid(v)) == 0
		if paid != (v[0] == 1) {
			t.Errorf("NotPaid(%v) = %v", v, impl.NotPaid(v))
		}
		for rate := range 141 {
			if paid && (impl.FewestStamps(v, rate) < 0 || impl.GreedyStamps(v, rate) < 0) {
				t.Errorf("of %v the rate %d is not made", v, rate)
			}
		}
		for most := 1; most <= 6; most++ {
			if reach := impl.ReachOf(v, most); (reach == 0) != (v[0] != 1) {
				t.Errorf("ReachOf(%v, %d) = %d", v, most, reach)
			}
		}
	}
}

// Promise 31.
func TestFewestStampsAreOneMoreThanFewest(t *testing.T) {
	for _, v := range allStamps() {
		want := rightStamps(v)
		for rate := range 141 {
			got := impl.FewestStamps(v, rate)
			if got != want[rate] {
				t.Fatalf("FewestStamps(%v, %d) = %d, not %d", v, rate, got, want[rate])
			}
			if got*v[len(v)-1] < rate && got >= 0 {
				t.Fatalf("FewestStamps(%v, %d) = %d, and so many of the greatest are less", v, rate, got)
			}
			isOneMore := rate == 0 || got < 0
			for _, stamp := range v {
				less := impl.FewestStamps(v, rate-stamp)
				if less < 0 {
					continue
				}
				if got < 0 || got > less+1 {
					t.Fatalf("FewestStamps(%v, %d) = %d, but %d for %d less", v, rate, got, less, stamp)
				}
				isOneMore = isOneMore || got == less+1
			}
			if !isOneMore {
				t.Fatalf("FewestStamps(%v, %d) = %d is not one more for any stamp", v, rate, got)
			}
		}
	}
}

// Promise 32.
func TestGreedyIsNoLess(t *testing.T) {
	more, none := 0, 0
	for _, v := range allStamps() {
		waste := impl.FirstWaste(v)
		for rate := range 141 {
			got, fewest := impl.GreedyStamps(v, rate), impl.FewestStamps(v, rate)
			if want := rightGreedy(v, rate); got != want {
				t.Fatalf("GreedyStamps(%v, %d) = %d, not %d", v, rate, got, want)
			}
			if !noMore(fewest, got) {
				t.Fatalf("GreedyStamps(%v, %d) = %d, but the fewest are %d", v, rate, got, fewest)
			}
			if (waste < 0 || rate < waste) && got != fewest {
				t.Fatalf("GreedyStamps(%v, %d) = %d, the fewest are %d, but the first waste is %d", v, rate, got, fewest, waste)
			}
			if got > fewest {
				more++
			}
			if got < 0 && fewest >= 0 {
				none++
			}
		}
	}
	if more < 1000 || none < 1000 {
		t.Fatalf("the greatest first is seldom not best: %d times more, %d times none", more, none)
	}
}

func TestFirstWasteKnown(t *testing.T) {
	for _, c := range []struct {
		v    []int
		want int
	}{
		{[]int{1, 4, 5}, 8}, {[]int{3, 5}, 6}, {[]int{1, 7}, -1}, {[]int{1}, -1}, {[]int{12}, -1}, {[]int{1, 2, 3, 4}, -1}, {[]int{1, 3, 4}, 6}, {[]int{1, 5, 10, 12}, 15}, {[]int{1, 2, 11, 12}, 22},
		{[]int{1, 11, 12}, 22}, {[]int{11, 12}, 22}, {[]int{2, 3}, 4}, {[]int{2, 4}, -1}, {[]int{2, 4, 6, 8}, -1}, {[]int{2, 6, 8}, 12}, {[]int{6, 12}, -1}, {[]int{9, 12}, 18}, {[]int{1, 2, 5, 10}, -1}, {[]int{4, 9}, 12}, {[]int{1, 6, 10}, 12},
	} {
		if got := impl.FirstWaste(c.v); got != c.want {
			t.Errorf("FirstWaste(%v) = %d, not %d", c.v, got, c.want)
		}
	}
}

// Promise 33.
func TestTheFirstWasteIsTheFirst(t *testing.T) {
	for _, v := range allStamps() {
		fewest := rightStamps(v)
		want := -1
		for rate := 140; rate >= 0; rate-- {
			if rightGreedy(v, rate) != fewest[rate] {
				want = rate
			}
		}
		got := impl.FirstWaste(v)
		if got != want {
			t.Fatalf("FirstWaste(%v) = %d, not %d", v, got, want)
		}
		for rate := range 141 {
			isWaste := impl.GreedyStamps(v, rate) != impl.FewestStamps(v, rate)
			if isWaste && (got < 0 || rate < got) || !isWaste && rate == got {
				t.Fatalf("FirstWaste(%v) = %d, but at %d it is %t that it is wasted", v, got, rate, isWaste)
			}
		}
		if n := len(v); v[0] == 1 && got >= 0 && (n < 2 || got >= v[n-1]+v[n-2]) {
			t.Fatalf("FirstWaste(%v) = %d is not less than the two greatest", v, got)
		}
	}
}

func TestReachOfKnown(t *testing.T) {
	for _, c := range []struct {
		v    []int
		want [6]int
	}{
		{[]int{1, 4, 5}, [6]int{1, 2, 15, 20, 25, 30}}, {[]int{2}, [6]int{}}, {[]int{1}, [6]int{1, 2, 3, 4, 5, 6}}, {[]int{12}, [6]int{}}, {[]int{2, 3, 4, 5}, [6]int{}}, {[]int{9, 10, 11, 12}, [6]int{}},
		{[]int{1, 2}, [6]int{2, 4, 6, 8, 10, 12}}, {[]int{1, 3}, [6]int{1, 4, 7, 10, 13, 16}}, {[]int{1, 4}, [6]int{1, 2, 6, 10, 14, 18}}, {[]int{1, 12}, [6]int{1, 2, 3, 4, 5, 6}}, {[]int{1, 7}, [6]int{1, 2, 3, 4, 5, 12}},
		{[]int{1, 2, 3, 4}, [6]int{4, 8, 12, 16, 20, 24}}, {[]int{1, 3, 5, 6}, [6]int{1, 12, 18, 24, 30, 36}}, {[]int{1, 5, 11, 12}, [6]int{1, 2, 3, 8, 53, 72}},
	} {
		for i, want := range c.want {
			if got := impl.ReachOf(c.v, i+1); got != want {
				t.Errorf("ReachOf(%v, %d) = %d, not %d", c.v, i+1, got, want)
			}
		}
	}
}

// Promise 34.
func TestReachIsUpToTheFirstThatCannotBe(t *testing.T) {
	for _, v := range allStamps() {
		before := 0
		for most := 1; most <= 6; most++ {
			reach := impl.ReachOf(v, most)
			if want := rightReach(v, most); reach != want {
				t.Fatalf("ReachOf(%v, %d) = %d, not %d", v, most, reach, want)
			}
			for rate := 1; rate <= reach+1; rate++ {
				if count := impl.FewestStamps(v, rate); (count >= 0 && count <= most) != (rate <= reach) {
					t.Fatalf("ReachOf(%v, %d) = %d, but %d takes %d stamps", v, most, reach, rate, count)
				}
			}
			if reach < before {
				t.Fatalf("ReachOf(%v, %d) = %d, but %d of one stamp fewer", v, most, reach, before)
			}
			before = reach
		}
	}
}

func TestBestPairKnown(t *testing.T) {
	for most, want := range [][]int{1: {1, 2, 2}, 2: {1, 2, 4}, 3: {1, 3, 7}, 4: {1, 3, 10}, 5: {1, 4, 14}, 6: {1, 4, 18}} {
		if most == 0 {
			continue
		}
		if pair, reach := impl.BestPair(most); !slices.Equal(pair, want[:2]) || reach != want[2] {
			t.Errorf("BestPair(%d) = %v, %d, not %v", most, pair, reach, want)
		}
	}
}

// Promise 35.
func TestTheBestPairIsToldByARule(t *testing.T) {
	for most := 1; most <= 6; most++ {
		pair, reach := impl.BestPair(most)
		if len(pair) != 2 || !impl.ValidStamps(pair) {
			t.Fatalf("BestPair(%d) = %v", most, pair)
		}
		if want := (most*most + 6*most + 1) / 4; reach != want || impl.ReachOf(pair, most) != want {
			t.Errorf("BestPair(%d) = %v, %d, not %d, and ReachOf is %d", most, pair, reach, want, impl.ReachOf(pair, most))
		}
		for _, v := range allStamps() {
			if len(v) != 2 || slices.Equal(v, pair) {
				continue
			}
			other := rightReach(v, most)
			isAhead := v[1] < pair[1] || v[1] == pair[1] && v[0] < pair[0]
			if other > reach || other == reach && isAhead {
				t.Errorf("BestPair(%d) = %v, %d, but %v reach %d", most, pair, reach, v, other)
			}
		}
	}
}

func TestNotPaidKnown(t *testing.T) {
	for _, c := range []struct{ v, want []int }{
		{[]int{3, 5}, []int{1, 2, 4, 7}}, {[]int{1}, nil}, {[]int{1, 12}, nil}, {[]int{1, 2, 3, 4}, nil}, {[]int{2, 3}, []int{1}}, {[]int{2, 3, 4, 5}, []int{1}}, {[]int{3, 4}, []int{1, 2, 5}}, {[]int{4, 5, 6, 7}, []int{1, 2, 3}},
		{[]int{6, 9, 11}, []int{1, 2, 3, 4, 5, 7, 8, 10, 13, 14, 16, 19, 25}}, {[]int{9, 10, 11, 12}, []int{1, 2, 3, 4, 5, 6, 7, 8, 13, 14, 15, 16, 17, 25, 26}},
	} {
		if got := impl.NotPaid(c.v); !slices.Equal(got, c.want) {
			t.Errorf("NotPaid(%v) = %v, not %v", c.v, got, c.want)
		}
	}
	if got := impl.NotPaid([]int{2}); len(got) != 70 || got[0] != 1 || got[69] != 139 {
		t.Errorf("NotPaid([2]) = %v", got)
	}
	if got := impl.NotPaid([]int{12}); len(got) != 129 || got[11] != 13 || got[128] != 140 {
		t.Errorf("NotPaid([12]) = %v", got)
	}
}

func commonFactor(a, b int) int {
	if b == 0 {
		return a
	}
	return commonFactor(b, a%b)
}

// Promise 36.
func TestWhatIsNotPaidOfTwoStampsIsToldByARule(t *testing.T) {
	for _, v := range allStamps() {
		if len(v) != 2 || commonFactor(v[0], v[1]) > 1 {
			continue
		}
		got := impl.NotPaid(v)
		// With the stamp 1 the greatest would be -1: there is none.
		greatest := v[0]*v[1] - v[0] - v[1]
		if len(got) != (greatest+1)/2 || greatest > 0 && slices.Max(got) != greatest {
			t.Errorf("NotPaid(%v) = %v, not %d rates up to %d", v, got, (greatest+1)/2, greatest)
		}
	}
}

func TestNotPaidIsWhatIsNotMade(t *testing.T) {
	for _, v := range allStamps() {
		var want []int
		for rate, count := range rightStamps(v) {
			if count < 0 {
				want = append(want, rate)
			}
		}
		got := impl.NotPaid(v)
		if !slices.Equal(got, want) {
			t.Fatalf("NotPaid(%v) = %v, not %v", v, got, want)
		}
		for rate := 1; rate <= 140; rate++ {
			if slices.Contains(got, rate) != (impl.FewestStamps(v, rate) == -1) {
				t.Fatalf("NotPaid(%v) = %v, but %d takes %d stamps", v, got, rate, impl.FewestStamps(v, rate))
			}
		}
	}
}

// Promise 77.
func TestStampsOfTwiceTheValueMakeTwiceTheRate(t *testing.T) {
	for _, v := range allStamps() {
		if v[len(v)-1] > 6 {
			continue
		}
		var twice []int
		for _, stamp := range v {
			twice = append(twice, 2*stamp)
		}
		for rate := range 71 {
			if got, want := impl.FewestStamps(twice, 2*rate), impl.FewestStamps(v, rate); got != want {
				t.Fatalf("FewestStamps(%v, %d) = %d, but %d of the halves", twice, 2*rate, got, want)
			}
			if got := impl.FewestStamps(twice, 2*rate+1); got != -1 {
				t.Fatalf("FewestStamps(%v, %d) = %d", twice, 2*rate+1, got)
			}
		}
	}
}

// Promise 78.
func TestMoreKindsAreNoMoreStamps(t *testing.T) {
	for _, v := range allStamps() {
		if len(v) == 1 {
			continue
		}
		for i := range v {
			fewer := slices.Delete(slices.Clone(v), i, i+1)
			for rate := range 141 {
				if got, without := impl.FewestStamps(v, rate), impl.FewestStamps(fewer, rate); !noMore(got, without) {
					t.Fatalf("FewestStamps(%v, %d) = %d, and %d without %d", v, rate, got, without, v[i])
				}
			}
			for most := 1; most <= 6; most++ {
				if got, without := impl.ReachOf(v, most), impl.ReachOf(fewer, most); without > got {
					t.Fatalf("ReachOf(%v, %d) = %d, and %d without %d", v, most, got, without, v[i])
				}
			}
		}
	}
}

func TestStampsAreNotChangedNorKept(t *testing.T) {
	whole := []int{3, 5, 9, 7, 1}
	v := whole[:2]
	unchanged := func(what string) {
		t.Helper()
		if !slices.Equal(whole, []int{3, 5, 9, 7, 1}) {
			t.Fatalf("%s: the stamps became %v", what, whole)
		}
	}
	impl.ValidStamps(v)
	impl.FewestStamps(v, 140)
	impl.GreedyStamps(v, 140)
	impl.FirstWaste(v)
	impl.ReachOf(v, 6)
	unchanged("questions")
	for range 2 {
		rates := impl.NotPaid(v)
		pair, reach := impl.BestPair(5)
		if !slices.Equal(rates, []int{1, 2, 4, 7}) || !slices.Equal(pair, []int{1, 4}) || reach != 14 {
			t.Fatalf("what was done to a result is kept: %v, %v, %d", rates, pair, reach)
		}
		spoil(rates)
		spoil(pair)
		unchanged("NotPaid")
	}
}
