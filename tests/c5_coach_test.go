package tests

import (
	"slices"
	"testing"

	"loop.example/lettersthatarrive/impl"
)

// tenCoaches is as many coaches as there may be, with the limits of the stops and times among them.
var tenCoaches = [][]int{
	{4, 59, 0, 60}, {0, 0, 4, 60}, {0, 0, 1, 1}, {1, 1, 1, 60}, {3, 30, 3, 31},
	{2, 10, 4, 50}, {1, 5, 2, 10}, {4, 50, 3, 58}, {0, 0, 1, 1}, {3, 58, 4, 59},
}

// chainedCoaches leave just when one comes by another one; they are told backwards.
var chainedCoaches = [][]int{{3, 40, 4, 60}, {2, 30, 3, 40}, {1, 20, 2, 30}, {0, 10, 1, 20}}

// manyOrEarly has one coach that is slow, and four that are early together.
var manyOrEarly = [][]int{{0, 0, 4, 60}, {2, 2, 3, 3}, {0, 0, 1, 1}, {3, 3, 4, 4}, {1, 1, 2, 2}}

// backCoaches come back to the stop that they leave, at once or over another one.
var backCoaches = [][]int{{2, 3, 2, 9}, {2, 9, 2, 60}, {2, 0, 3, 20}, {3, 20, 2, 30}, {3, 19, 3, 21}, {3, 21, 1, 22}}

// notCoaches has what are not coaches, each for one reason.
var notCoaches = [][][]int{
	{nil}, {{}}, {{0}}, {{0, 5, 1}}, {{0, 5, 1, 10, 0}}, {{0, 5, 1, 10}, {}}, {{0, 5, 1, 10}, {0, 5, 1}, {0, 5, 1, 10}}, {{0, 5, 1, 10}, {1, 2, 3, 4, 5}},
	{{-1, 5, 1, 10}}, {{5, 5, 1, 10}}, {{0, 5, -1, 10}}, {{0, 5, 5, 10}}, {{5, 5, 5, 10}}, {{1 << 62, 5, 1, 10}}, {{0, 5, -1 << 63, 10}}, {{0, 5, 1, 10}, {4, 5, 5, 10}}, {{-1, 5, 0, 10}, {0, 5, 1, 10}},
	{{0, -1, 1, 10}}, {{0, 5, 1, 61}}, {{0, 60, 1, 61}}, {{0, 61, 1, 62}}, {{0, -2, 1, -1}}, {{0, -1 << 63, 1, 10}}, {{0, 5, 1, 1 << 62}}, {{0, 5, 1, 10}, {0, 5, 1, 61}}, {{0, -1, 1, 0}, {0, 5, 1, 10}},
	{{0, 5, 1, 5}}, {{0, 0, 1, 0}}, {{0, 60, 1, 60}}, {{0, 5, 1, 4}}, {{0, 60, 1, 0}}, {{2, 7, 2, 7}}, {{0, 5, 1, 10}, {1, 10, 2, 10}}, {{1, 10, 2, 9}, {0, 5, 1, 10}},
	append(slices.Clone(tenCoaches), []int{0, 5, 1, 10}), append(slices.Clone(tenCoaches), []int{2, 0, 2, 1}), append(slices.Clone(tenCoaches), tenCoaches...),
}

// notStops has what is no stop.
var notStops = []int{-1, -5, 5, 6, 60, 1 << 62, -1 << 63}

// notTimes has what is no time.
var notTimes = []int{-1, -60, 61, 62, 1 << 62, -1 << 63}

// fewCoaches returns all lists of up to count coaches between the stops, with times up to 3.
func fewCoaches(count int, stops ...int) [][][]int {
	lists := [][][]int{nil}
	longest := [][][]int{nil}
	for range count {
		var longer [][][]int
		for _, list := range longest {
			for _, from := range stops {
				for _, to := range stops {
					for leave := range 3 {
						for come := leave + 1; come <= 3; come++ {
							longer = append(longer, append(slices.Clone(list), []int{from, leave, to, come}))
						}
					}
				}
			}
		}
		lists = append(lists, longer...)
		longest = longer
	}
	return lists
}

// manyCoaches returns all lists of few coaches, and lists of more that follow a rule: few stops or all, few times or all, and in every second of them coaches that leave where another one has come.
func manyCoaches() [][][]int {
	lists := [][][]int{tenCoaches, chainedCoaches, manyOrEarly, backCoaches}
	lists = append(lists, fewCoaches(2, 0, 1, 4)...)
	lists = append(lists, fewCoaches(3, 0, 3)...)
	next := 1
	draw := func(n int) int {
		next = (next*1103 + 12347) % 1000003
		return next / 7 % n
	}
	for count := 3; count <= 10; count++ {
		for _, stops := range []int{2, 3, 5} {
			for _, clock := range []int{8, 20, 60} {
				for try := range 16 {
					var list [][]int
					at, now := draw(stops), 0
					for i := range count {
						if try%2 == 0 || now >= clock-1 {
							at, now = draw(stops), draw(clock)
						}
						come := now + 1 + draw(clock-now)
						if draw(4) > 0 {
							come = min(come, now+1+draw(clock/6+1))
						}
						to := draw(stops)
						list = slices.Insert(list, draw(i+1), []int{at, now, to, come})
						at, now = to, come
					}
					lists = append(lists, list)
				}
			}
		}
	}
	return lists
}

// askedTimes returns the times of the coaches, those just ahead of them and behind them, and both limits.
func askedTimes(list [][]int) []int {
	times := []int{0, 60}
	for _, c := range list {
		for _, time := range []int{c[1], c[3]} {
			times = append(times, max(time-1, 0), time, min(time+1, 60))
		}
	}
	slices.Sort(times)
	return slices.Compact(times)
}

// everyWay goes all ways by coaches from the stop at the time on, and calls be at each stop, the first one among them, with the time and the rides up to there.
func everyWay(list [][]int, stop, time, rides int, be func(stop, time, rides int)) {
	be(stop, time, rides)
	for _, c := range list {
		if c[0] == stop && c[1] >= time {
			everyWay(list, c[2], c[3], rides+1, be)
		}
	}
}

// rightEarliest looks at all ways of at most so many rides.
func rightEarliest(list [][]int, stop, time, most int) []int {
	there := []int{-1, -1, -1, -1, -1}
	everyWay(list, stop, time, 0, func(stop, time, rides int) {
		if rides <= most && (there[stop] < 0 || time < there[stop]) {
			there[stop] = time
		}
	})
	return there
}

// rightLatest looks for each coach at all ways behind it.
func rightLatest(list [][]int, stop, time int) []int {
	left := []int{-1, -1, -1, -1, -1}
	left[stop] = time
	for _, c := range list {
		if there := rightEarliest(list, c[2], c[3], 10)[stop]; there >= 0 && there <= time {
			left[c[0]] = max(left[c[0]], c[1])
		}
	}
	return left
}

// rightRides looks at all ways that are as early as may be.
func rightRides(list [][]int, stop, time int) []int {
	there := rightEarliest(list, stop, time, 10)
	fewest := []int{-1, -1, -1, -1, -1}
	everyWay(list, stop, time, 0, func(stop, time, rides int) {
		if time == there[stop] && (fewest[stop] < 0 || rides < fewest[stop]) {
			fewest[stop] = rides
		}
	})
	return fewest
}

// noLater reports whether each time is there, and no later, where the other one is.
func noLater(times, others []int) bool {
	if len(times) != 5 || len(others) != 5 {
		return false
	}
	for stop, other := range others {
		if other >= 0 && (times[stop] < 0 || times[stop] > other) {
			return false
		}
	}
	return true
}

// noEarlier reports whether each time to leave, -1 ahead of all, is no earlier than the other one.
func noEarlier(times, others []int) bool {
	if len(times) != 5 || len(others) != 5 {
		return false
	}
	for stop, other := range others {
		if times[stop] < other {
			return false
		}
	}
	return true
}

// onlyThere returns the times of who is at one stop alone.
func onlyThere(stop, time int) []int {
	times := []int{-1, -1, -1, -1, -1}
	times[stop] = time
	return times
}

func TestLimitsOfCoaches(t *testing.T) {
	if impl.MaxStops != 5 || impl.MaxClock != 60 || impl.MaxCoaches != 10 {
		t.Error("a limit of chapter 5 is not that of the document")
	}
}

func TestValidCoaches(t *testing.T) {
	for _, list := range append(manyCoaches(), [][]int{}, [][]int{{0, 0, 0, 1}}, [][]int{{4, 59, 4, 60}}, [][]int{{0, 0, 4, 60}}, [][]int{{4, 0, 0, 60}, {4, 0, 0, 60}}) {
		if !impl.ValidCoaches(list) {
			t.Errorf("ValidCoaches(%v) is false", list)
		}
	}
	for _, list := range notCoaches {
		if impl.ValidCoaches(list) {
			t.Errorf("ValidCoaches(%v) is true", list)
		}
	}
}

// checkOthers checks the fixed results for what the document does not allow.
func checkOthers(t *testing.T, list [][]int, stop, time int) {
	t.Helper()
	if got := impl.EarliestFrom(list, stop, time); len(got) != 0 {
		t.Errorf("EarliestFrom(%v, %d, %d) = %v, not nothing", list, stop, time, got)
	}
	for rides := range 11 {
		if got := impl.EarliestWithin(list, stop, time, rides); len(got) != 0 {
			t.Errorf("EarliestWithin(%v, %d, %d, %d) = %v, not nothing", list, stop, time, rides, got)
		}
	}
	if got := impl.LatestTo(list, stop, time); len(got) != 0 {
		t.Errorf("LatestTo(%v, %d, %d) = %v, not nothing", list, stop, time, got)
	}
	for to := range 5 {
		if got := impl.FewestRides(list, stop, time, to); got != -1 {
			t.Errorf("FewestRides(%v, %d, %d, %d) = %d, not -1", list, stop, time, to, got)
		}
	}
}

func TestCoachesOfOthers(t *testing.T) {
	for _, list := range notCoaches {
		for stop := range 5 {
			for _, time := range []int{0, 5, 60} {
				checkOthers(t, list, stop, time)
			}
		}
	}
	for _, list := range [][][]int{nil, {}, tenCoaches, chainedCoaches, backCoaches} {
		for _, stop := range notStops {
			checkOthers(t, list, stop, 0)
			checkOthers(t, list, stop, 60)
			for from := range 5 {
				if got := impl.FewestRides(list, from, 0, stop); got != -1 {
					t.Errorf("FewestRides(%v, %d, 0, %d) = %d, not -1", list, from, stop, got)
				}
			}
		}
		for _, time := range notTimes {
			checkOthers(t, list, 0, time)
			checkOthers(t, list, 4, time)
		}
		for _, rides := range []int{-1, -10, 11, 12, 1 << 62, -1 << 63} {
			for stop := range 5 {
				if got := impl.EarliestWithin(list, stop, 0, rides); len(got) != 0 {
					t.Errorf("EarliestWithin(%v, %d, 0, %d) = %v, not nothing", list, stop, rides, got)
				}
			}
		}
		checkOthers(t, list, -1, 61)
		checkOthers(t, list, 5, -1)
	}
}

// Promise 25.
func TestCoachesCanBeLeftOut(t *testing.T) {
	for _, list := range manyCoaches() {
		for n := len(list); n >= 0; n-- {
			if !impl.ValidCoaches(list[:n]) {
				t.Fatalf("ValidCoaches(%v) is false", list[:n])
			}
		}
	}
}

func TestNoCoaches(t *testing.T) {
	for _, list := range [][][]int{nil, {}} {
		for stop := range 5 {
			for time := range 61 {
				want := onlyThere(stop, time)
				if got := impl.EarliestFrom(list, stop, time); !slices.Equal(got, want) {
					t.Errorf("EarliestFrom(%v, %d, %d) = %v, not %v", list, stop, time, got, want)
				}
				if got := impl.LatestTo(list, stop, time); !slices.Equal(got, want) {
					t.Errorf("LatestTo(%v, %d, %d) = %v, not %v", list, stop, time, got, want)
				}
				for rides := range 11 {
					if got := impl.EarliestWithin(list, stop, time, rides); !slices.Equal(got, want) {
						t.Errorf("EarliestWithin(%v, %d, %d, %d) = %v, not %v", list, stop, time, rides, got, want)
					}
				}
				for to := range 5 {
					if got := impl.FewestRides(list, stop, time, to); got != -1 && to != stop || got != 0 && to == stop {
						t.Errorf("FewestRides(%v, %d, %d, %d) = %d", list, stop, time, to, got)
					}
				}
			}
		}
	}
}

func TestEarliestKnown(t *testing.T) {
	for _, c := range []struct {
		list        [][]int
		stop, time  int
		rides       int
		within, all []int
	}{
		{chainedCoaches, 0, 0, 0, []int{0, -1, -1, -1, -1}, []int{0, 20, 30, 40, 60}}, {chainedCoaches, 0, 10, 1, []int{10, 20, -1, -1, -1}, []int{10, 20, 30, 40, 60}},
		{chainedCoaches, 0, 10, 3, []int{10, 20, 30, 40, -1}, []int{10, 20, 30, 40, 60}}, {chainedCoaches, 0, 10, 10, []int{10, 20, 30, 40, 60}, []int{10, 20, 30, 40, 60}},
		{chainedCoaches, 0, 11, 10, []int{11, -1, -1, -1, -1}, []int{11, -1, -1, -1, -1}}, {chainedCoaches, 2, 29, 1, []int{-1, -1, 29, 40, -1}, []int{-1, -1, 29, 40, 60}}, {chainedCoaches, 4, 60, 2, []int{-1, -1, -1, -1, 60}, []int{-1, -1, -1, -1, 60}},
		{manyOrEarly, 0, 0, 1, []int{0, 1, -1, -1, 60}, []int{0, 1, 2, 3, 4}}, {manyOrEarly, 0, 0, 3, []int{0, 1, 2, 3, 60}, []int{0, 1, 2, 3, 4}}, {manyOrEarly, 0, 0, 4, []int{0, 1, 2, 3, 4}, []int{0, 1, 2, 3, 4}}, {manyOrEarly, 1, 1, 2, []int{-1, 1, 2, 3, -1}, []int{-1, 1, 2, 3, 4}},
		{backCoaches, 2, 0, 1, []int{-1, -1, 0, 20, -1}, []int{-1, 22, 0, 20, -1}}, {backCoaches, 2, 0, 2, []int{-1, 22, 0, 20, -1}, []int{-1, 22, 0, 20, -1}}, {backCoaches, 2, 1, 10, []int{-1, -1, 1, -1, -1}, []int{-1, -1, 1, -1, -1}}, {backCoaches, 3, 20, 1, []int{-1, 22, 30, 20, -1}, []int{-1, 22, 30, 20, -1}},
		{tenCoaches, 0, 0, 2, []int{0, 1, 10, -1, 60}, []int{0, 1, 10, 58, 50}}, {tenCoaches, 0, 0, 3, []int{0, 1, 10, -1, 50}, []int{0, 1, 10, 58, 50}}, {tenCoaches, 1, 5, 9, []int{60, 5, 10, 58, 50}, []int{60, 5, 10, 58, 50}},
		{[][]int{{1, 9, 2, 11}, {0, 0, 1, 10}}, 0, 0, 5, []int{0, 10, -1, -1, -1}, []int{0, 10, -1, -1, -1}}, {[][]int{{0, 5, 1, 8}, {0, 5, 1, 6}, {0, 6, 1, 7}}, 0, 5, 1, []int{5, 6, -1, -1, -1}, []int{5, 6, -1, -1, -1}},
		{[][]int{{0, 2, 1, 9}, {0, 4, 1, 5}}, 0, 0, 1, []int{0, 5, -1, -1, -1}, []int{0, 5, -1, -1, -1}}, {[][]int{{3, 59, 4, 60}}, 3, 60, 1, []int{-1, -1, -1, 60, -1}, []int{-1, -1, -1, 60, -1}}, {[][]int{{3, 0, 4, 1}}, 3, 0, 1, []int{-1, -1, -1, 0, 1}, []int{-1, -1, -1, 0, 1}},
	} {
		if got := impl.EarliestWithin(c.list, c.stop, c.time, c.rides); !slices.Equal(got, c.within) {
			t.Errorf("EarliestWithin(%v, %d, %d, %d) = %v, not %v", c.list, c.stop, c.time, c.rides, got, c.within)
		}
		if got := impl.EarliestFrom(c.list, c.stop, c.time); !slices.Equal(got, c.all) {
			t.Errorf("EarliestFrom(%v, %d, %d) = %v, not %v", c.list, c.stop, c.time, got, c.all)
		}
	}
}

func TestLatestKnown(t *testing.T) {
	for _, c := range []struct {
		list       [][]int
		stop, time int
		want       []int
	}{
		{chainedCoaches, 4, 60, []int{10, 20, 30, 40, 60}}, {chainedCoaches, 4, 59, []int{-1, -1, -1, -1, 59}}, {chainedCoaches, 2, 30, []int{10, 20, 30, -1, -1}}, {chainedCoaches, 2, 29, []int{-1, -1, 29, -1, -1}}, {chainedCoaches, 0, 60, []int{60, -1, -1, -1, -1}}, {chainedCoaches, 1, 20, []int{10, 20, -1, -1, -1}},
		{manyOrEarly, 4, 60, []int{0, 1, 2, 3, 60}}, {manyOrEarly, 4, 3, []int{-1, -1, -1, -1, 3}}, {manyOrEarly, 3, 3, []int{0, 1, 2, 3, -1}}, {manyOrEarly, 1, 0, []int{-1, 0, -1, -1, -1}},
		{backCoaches, 2, 60, []int{-1, -1, 60, 20, -1}}, {backCoaches, 2, 29, []int{-1, -1, 29, -1, -1}}, {backCoaches, 1, 60, []int{-1, 60, 0, 21, -1}}, {backCoaches, 3, 20, []int{-1, -1, 0, 20, -1}}, {backCoaches, 3, 0, []int{-1, -1, -1, 0, -1}},
		{tenCoaches, 0, 60, []int{60, 5, 10, 58, 59}}, {tenCoaches, 4, 50, []int{0, 5, 10, -1, 50}}, {tenCoaches, 4, 0, []int{-1, -1, -1, -1, 0}}, {tenCoaches, 3, 58, []int{0, 5, 10, 58, 50}},
		{[][]int{{0, 3, 1, 7}, {0, 5, 1, 7}, {0, 4, 1, 6}}, 1, 7, []int{5, 7, -1, -1, -1}}, {[][]int{{0, 3, 1, 7}, {0, 5, 1, 9}, {0, 2, 1, 6}}, 1, 8, []int{3, 8, -1, -1, -1}}, {[][]int{{0, 0, 1, 10}, {1, 9, 2, 11}}, 2, 60, []int{-1, 9, 60, -1, -1}},
	} {
		if got := impl.LatestTo(c.list, c.stop, c.time); !slices.Equal(got, c.want) {
			t.Errorf("LatestTo(%v, %d, %d) = %v, not %v", c.list, c.stop, c.time, got, c.want)
		}
	}
}

func TestFewestRidesKnown(t *testing.T) {
	for _, c := range []struct {
		list       [][]int
		stop, time int
		want       []int
	}{
		{chainedCoaches, 0, 0, []int{0, 1, 2, 3, 4}}, {chainedCoaches, 0, 10, []int{0, 1, 2, 3, 4}}, {chainedCoaches, 0, 11, []int{0, -1, -1, -1, -1}}, {chainedCoaches, 3, 5, []int{-1, -1, -1, 0, 1}},
		{manyOrEarly, 0, 0, []int{0, 1, 2, 3, 4}}, {manyOrEarly, 2, 0, []int{-1, -1, 0, 1, 2}}, {manyOrEarly, 4, 0, []int{-1, -1, -1, -1, 0}},
		{backCoaches, 2, 0, []int{-1, 2, 0, 1, -1}}, {backCoaches, 2, 3, []int{-1, -1, 0, -1, -1}}, {backCoaches, 3, 0, []int{-1, 1, 1, 0, -1}},
		{tenCoaches, 0, 0, []int{0, 1, 2, 4, 3}}, {tenCoaches, 1, 2, []int{3, 0, 1, 3, 2}}, {tenCoaches, 4, 60, []int{-1, -1, -1, -1, 0}},
		{[][]int{{0, 1, 1, 2}, {1, 2, 2, 9}, {0, 3, 2, 9}}, 0, 0, []int{0, 1, 1, -1, -1}}, {[][]int{{0, 1, 1, 2}, {1, 2, 2, 9}, {0, 3, 2, 10}}, 0, 0, []int{0, 1, 2, -1, -1}}, {[][]int{{0, 1, 1, 2}, {1, 2, 1, 3}, {1, 3, 2, 4}}, 0, 1, []int{0, 1, 2, -1, -1}},
	} {
		for to, want := range c.want {
			if got := impl.FewestRides(c.list, c.stop, c.time, to); got != want {
				t.Errorf("FewestRides(%v, %d, %d, %d) = %d, not %d", c.list, c.stop, c.time, to, got, want)
			}
		}
	}
}

// Promise 26, the first half.
func TestCoachByCoachIsRideByRide(t *testing.T) {
	for _, list := range manyCoaches() {
		for stop := range 5 {
			for _, time := range askedTimes(list) {
				got, want := impl.EarliestFrom(list, stop, time), rightEarliest(list, stop, time, 10)
				if !slices.Equal(got, want) {
					t.Fatalf("EarliestFrom(%v, %d, %d) = %v, not %v", list, stop, time, got, want)
				}
				if rides := impl.EarliestWithin(list, stop, time, len(list)); !slices.Equal(rides, got) {
					t.Fatalf("EarliestFrom(%v, %d, %d) = %v, but %v by as many rides as coaches", list, stop, time, got, rides)
				}
			}
		}
	}
}

// Promise 26, the second half.
func TestWhoIsThereInTimeHasLeftInTime(t *testing.T) {
	for _, list := range manyCoaches() {
		times := askedTimes(list)
		for to := range 5 {
			var left [][]int
			for _, end := range times {
				left = append(left, impl.LatestTo(list, to, end))
			}
			for stop := range 5 {
				for _, start := range times {
					there := impl.EarliestFrom(list, stop, start)
					for i, end := range times {
						inTime := there[to] >= 0 && there[to] <= end
						if inTime != (left[i][stop] >= start) {
							t.Fatalf("EarliestFrom(%v, %d, %d) = %v, but LatestTo %d at %d is %v", list, stop, start, there, to, end, left[i])
						}
					}
				}
			}
		}
	}
}

// Promise 27.
func TestMoreRidesAreNoLater(t *testing.T) {
	later := 0
	for _, list := range manyCoaches() {
		for stop := range 5 {
			for _, time := range askedTimes(list) {
				fewer := impl.EarliestWithin(list, stop, time, 0)
				if !slices.Equal(fewer, onlyThere(stop, time)) {
					t.Fatalf("EarliestWithin(%v, %d, %d, 0) = %v", list, stop, time, fewer)
				}
				for rides := 1; rides <= 10; rides++ {
					got := impl.EarliestWithin(list, stop, time, rides)
					if !noLater(got, fewer) {
						t.Fatalf("EarliestWithin(%v, %d, %d, %d) = %v, and %v by one ride fewer", list, stop, time, rides, got, fewer)
					}
					if rides > 1 && !slices.Equal(got, fewer) {
						later++
					}
					if want := rightEarliest(list, stop, time, rides); rides < 6 && !slices.Equal(got, want) {
						t.Fatalf("EarliestWithin(%v, %d, %d, %d) = %v, not %v", list, stop, time, rides, got, want)
					}
					fewer = got
				}
			}
		}
	}
	if later < 1000 {
		t.Fatalf("only %d times a second ride, or one behind it, is of use", later)
	}
}

// Promise 28.
func TestLaterIsNoEarlier(t *testing.T) {
	for _, list := range manyCoaches() {
		for stop := range 5 {
			before := []int{-1, -1, -1, -1, -1}
			for _, time := range askedTimes(list) {
				got, want := impl.LatestTo(list, stop, time), rightLatest(list, stop, time)
				if !slices.Equal(got, want) {
					t.Fatalf("LatestTo(%v, %d, %d) = %v, not %v", list, stop, time, got, want)
				}
				if got[stop] != time || !noEarlier(got, before) {
					t.Fatalf("LatestTo(%v, %d, %d) = %v, and %v for an earlier time", list, stop, time, got, before)
				}
				before = got
			}
		}
	}
}

// Promise 29.
func TestFewerRidesAreLater(t *testing.T) {
	counts := map[int]int{}
	for _, list := range manyCoaches() {
		for stop := range 5 {
			for _, time := range askedTimes(list) {
				there, want := impl.EarliestFrom(list, stop, time), rightRides(list, stop, time)
				for to := range 5 {
					got := impl.FewestRides(list, stop, time, to)
					counts[got]++
					if got != want[to] || (got < 0) != (there[to] < 0) {
						t.Fatalf("FewestRides(%v, %d, %d, %d) = %d, not %d", list, stop, time, to, got, want[to])
					}
					if got >= 0 && impl.EarliestWithin(list, stop, time, got)[to] != there[to] {
						t.Fatalf("FewestRides(%v, %d, %d, %d) = %d, but by so many one is not there at %d", list, stop, time, to, got, there[to])
					}
					if got < 1 {
						continue
					}
					if fewer := impl.EarliestWithin(list, stop, time, got-1)[to]; fewer >= 0 && fewer <= there[to] {
						t.Fatalf("FewestRides(%v, %d, %d, %d) = %d, but by one fewer one is there at %d", list, stop, time, to, got, fewer)
					}
				}
			}
		}
	}
	if counts[2] < 1000 || counts[3] < 100 || counts[4] < 10 {
		t.Fatalf("rides are seldom many: %v", counts)
	}
}

// Promise 75.
func TestMoreCoachesAreNoLater(t *testing.T) {
	for _, list := range manyCoaches() {
		if len(list) == 0 {
			continue
		}
		fewer := list[:len(list)-1]
		for stop := range 5 {
			for _, time := range askedTimes(list) {
				if got, without := impl.EarliestFrom(list, stop, time), impl.EarliestFrom(fewer, stop, time); !noLater(got, without) {
					t.Fatalf("EarliestFrom(%v, %d, %d) = %v, and %v without the last coach", list, stop, time, got, without)
				}
				if got, without := impl.LatestTo(list, stop, time), impl.LatestTo(fewer, stop, time); !noEarlier(got, without) {
					t.Fatalf("LatestTo(%v, %d, %d) = %v, and %v without the last coach", list, stop, time, got, without)
				}
			}
		}
	}
}

// Promise 76.
func TestWhoComesLaterIsNoEarlier(t *testing.T) {
	for _, list := range manyCoaches() {
		for stop := range 5 {
			before := impl.EarliestFrom(list, stop, 0)
			for _, time := range askedTimes(list) {
				got := impl.EarliestFrom(list, stop, time)
				if !noLater(before, got) {
					t.Fatalf("EarliestFrom(%v, %d, %d) = %v, and %v for an earlier time", list, stop, time, got, before)
				}
				before = got
			}
		}
	}
}

// The order of the coaches tells nothing.
func TestCoachesInAnyOrder(t *testing.T) {
	for _, list := range manyCoaches() {
		other := slices.Clone(list)
		slices.Reverse(other)
		for stop := range 5 {
			for _, time := range []int{0, 2, 30, 60} {
				if got, want := impl.EarliestFrom(other, stop, time), impl.EarliestFrom(list, stop, time); !slices.Equal(got, want) {
					t.Fatalf("EarliestFrom(%v, %d, %d) = %v, but %v the other way round", other, stop, time, got, want)
				}
				if got, want := impl.LatestTo(other, stop, time), impl.LatestTo(list, stop, time); !slices.Equal(got, want) {
					t.Fatalf("LatestTo(%v, %d, %d) = %v, but %v the other way round", other, stop, time, got, want)
				}
			}
		}
	}
}

func TestCoachesAreNotChangedNorKept(t *testing.T) {
	cells := []int{1, 10, 2, 15, 0, 5, 1, 10, 1, 9, 3, 12}
	whole := [][]int{cells[0:4], cells[4:8], cells[8:12], {9, 9, 9, 9}}
	list := whole[:3]
	unchanged := func(what string) {
		t.Helper()
		if !slices.Equal(cells, []int{1, 10, 2, 15, 0, 5, 1, 10, 1, 9, 3, 12}) {
			t.Fatalf("%s: the coaches became %v", what, cells)
		}
		for i := range list {
			if len(whole[i]) != 4 || &whole[i][0] != &cells[4*i] {
				t.Fatalf("%s: the coach %d is another one", what, i)
			}
		}
		if !slices.Equal(whole[3], []int{9, 9, 9, 9}) {
			t.Fatalf("%s: what is behind the coaches became %v", what, whole[3])
		}
	}
	impl.ValidCoaches(list)
	impl.FewestRides(list, 0, 0, 2)
	unchanged("questions")
	for range 2 {
		for what, c := range map[string]struct{ got, want []int }{
			"EarliestFrom":     {impl.EarliestFrom(list, 0, 0), []int{0, 10, 15, -1, -1}},
			"EarliestWithin":   {impl.EarliestWithin(list, 0, 0, 1), []int{0, 10, -1, -1, -1}},
			"LatestTo":         {impl.LatestTo(list, 2, 16), []int{5, 10, 16, -1, -1}},
			"EarliestFrom 3":   {impl.EarliestFrom(nil, 3, 7), []int{-1, -1, -1, 7, -1}},
			"EarliestWithin 0": {impl.EarliestWithin(list, 1, 4, 0), []int{-1, 4, -1, -1, -1}},
		} {
			if !slices.Equal(c.got, c.want) {
				t.Fatalf("%s keeps what was done to its result: %v, not %v", what, c.got, c.want)
			}
			spoil(c.got)
			unchanged(what)
		}
	}
}
