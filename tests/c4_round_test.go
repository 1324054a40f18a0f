package tests

import (
	"slices"
	"testing"

	"loop.example/lettersthatarrive/impl"
)

// town is what the functions of chapter 4 are asked about.
type town struct {
	n       int
	streets [][]int
}

// sevenLoops is as many streets as there may be, all back to their corner.
var sevenLoops = [][]int{{0, 0, 20}, {0, 0, 1}, {0, 0, 20}, {0, 0, 7}, {0, 0, 20}, {0, 0, 20}, {0, 0, 20}}

// notTowns has what is not a town, each for one reason.
var notTowns = []town{
	{0, nil}, {-1, nil}, {6, nil}, {1 << 62, nil}, {-1 << 63, nil}, {0, [][]int{{0, 0, 3}}}, {-1, [][]int{{0, 0, 3}}},
	{6, [][]int{{0, 1, 1}, {1, 2, 1}, {2, 3, 1}, {3, 4, 1}, {4, 5, 1}}}, {7, [][]int{{0, 1, 1}, {0, 2, 1}, {0, 3, 1}, {0, 4, 1}, {0, 5, 1}, {0, 6, 1}}},
	{1, append(slices.Clone(sevenLoops), []int{0, 0, 1})}, {2, append(slices.Clone(sevenLoops), []int{0, 1, 1})}, {5, [][]int{{0, 1, 1}, {1, 2, 1}, {2, 3, 1}, {3, 4, 1}, {4, 0, 1}, {0, 2, 1}, {0, 3, 1}, {1, 4, 1}}},
	{1, [][]int{nil}}, {1, [][]int{{}}}, {1, [][]int{{0}}}, {1, [][]int{{0, 0}}}, {1, [][]int{{0, 0, 3, 0}}}, {2, [][]int{{0, 1, 3}, {0, 1}}}, {2, [][]int{{0, 1, 3}, {}}}, {2, [][]int{{0, 1, 3}, {0, 1, 3, 3}, {0, 1, 3}}},
	{1, [][]int{{0, 1, 3}}}, {1, [][]int{{1, 0, 3}}}, {1, [][]int{{1, 1, 3}}}, {2, [][]int{{0, 1, 3}, {0, 2, 3}}}, {2, [][]int{{0, 1, 3}, {2, 0, 3}}}, {2, [][]int{{0, 1, 3}, {-1, 1, 3}}}, {2, [][]int{{0, 1, 3}, {1, -1, 3}}},
	{2, [][]int{{0, 1 << 62, 3}, {0, 1, 3}}}, {2, [][]int{{-1 << 63, 0, 3}, {0, 1, 3}}}, {5, [][]int{{0, 1, 3}, {1, 2, 3}, {2, 3, 3}, {3, 4, 3}, {4, 5, 3}}}, {5, [][]int{{0, 1, 3}, {1, 2, 3}, {2, 3, 3}, {3, 4, 3}, {5, 0, 3}}},
	{1, [][]int{{0, 0, 0}}}, {1, [][]int{{0, 0, -1}}}, {1, [][]int{{0, 0, 21}}}, {2, [][]int{{0, 1, 0}}}, {2, [][]int{{0, 1, 21}}}, {2, [][]int{{0, 1, 3}, {1, 0, 1 << 62}}}, {2, [][]int{{0, 1, -1 << 63}, {1, 0, 3}}},
	{2, nil}, {5, nil}, {2, [][]int{{0, 0, 3}}}, {2, [][]int{{1, 1, 3}}}, {2, [][]int{{0, 0, 3}, {1, 1, 3}}}, {2, sevenLoops}, {3, [][]int{{0, 1, 3}, {1, 0, 3}}}, {3, [][]int{{1, 2, 3}, {2, 1, 3}}}, {3, [][]int{{0, 2, 3}, {1, 1, 3}}},
	{4, [][]int{{0, 1, 3}, {2, 3, 3}}}, {4, [][]int{{0, 1, 3}, {1, 2, 3}, {2, 0, 3}}}, {4, [][]int{{1, 2, 3}, {2, 3, 3}, {3, 1, 3}}}, {5, [][]int{{0, 1, 3}, {2, 3, 3}, {3, 4, 3}, {4, 2, 3}, {1, 0, 3}}}, {5, [][]int{{0, 1, 3}, {0, 2, 3}, {0, 3, 3}, {1, 2, 3}, {1, 3, 3}, {2, 3, 3}, {4, 4, 3}}},
}

// reachesAll reports whether all corners are reached from the corner 0, by giving the corners of each street one name.
func reachesAll(n int, streets [][]int) bool {
	names := inOrder(n)
	for _, s := range streets {
		a, b := names[s[0]], names[s[1]]
		for c := range names {
			if names[c] == a {
				names[c] = b
			}
		}
	}
	for _, name := range names {
		if name != names[0] {
			return false
		}
	}
	return true
}

// fewStreets returns all lists of up to three streets between n corners, in both directions, with one of two lengths.
func fewStreets(n int) [][][]int {
	lists := [][][]int{nil}
	longest := [][][]int{nil}
	for range 3 {
		var longer [][][]int
		for _, list := range longest {
			for from := range n {
				for to := range n {
					longer = append(longer, append(slices.Clone(list), []int{from, to, 2}), append(slices.Clone(list), []int{from, to, 5}))
				}
			}
		}
		lists = append(lists, longer...)
		longest = longer
	}
	return lists
}

// manyTowns returns all towns of up to three corners and few streets, and larger ones that follow a rule, every second of them a walk back to the corner 0.
func manyTowns() []town {
	towns := []town{{1, sevenLoops}, {2, [][]int{{0, 1, 20}, {1, 0, 1}, {1, 1, 20}}}, {5, [][]int{{3, 4, 20}, {2, 3, 20}, {1, 2, 20}, {0, 1, 20}}}}
	add := func(n int, streets [][]int) {
		if reachesAll(n, streets) {
			towns = append(towns, town{n, streets})
		}
	}
	for n := 1; n <= 3; n++ {
		for _, streets := range fewStreets(n) {
			add(n, streets)
		}
	}
	next := 1
	draw := func(n int) int {
		next = (next*1103 + 12347) % 1000003
		return next / 7 % n
	}
	for n := 2; n <= 5; n++ {
		for count := 4; count <= 7; count++ {
			for _, longest := range []int{1, 4, 20} {
				for try := range 100 {
					var streets [][]int
					at := 0
					for i := range count {
						to := draw(n)
						if try%2 == 0 {
							at = draw(n)
						} else if i == count-1 {
							to = 0
						}
						streets = slices.Insert(streets, draw(i+1), []int{at, to, 1 + draw(longest)})
						at = to
					}
					add(n, streets)
				}
			}
		}
	}
	return towns
}

// allLengths is how long all streets are together.
func allLengths(streets [][]int) int {
	sum := 0
	for _, s := range streets {
		sum += s[2]
	}
	return sum
}

// rightApart tries all ways that come to no corner twice.
func rightApart(streets [][]int, from, to int, seen ...int) int {
	if from == to {
		return 0
	}
	best := -1
	for _, s := range streets {
		for turn := range 2 {
			if s[turn] != from || slices.Contains(seen, s[1-turn]) || s[0] == s[1] {
				continue
			}
			rest := rightApart(streets, s[1-turn], to, append(slices.Clone(seen), from)...)
			if rest >= 0 && (best < 0 || s[2]+rest < best) {
				best = s[2] + rest
			}
		}
	}
	return best
}

// rightOdds counts the ends of streets at one corner after the other.
func rightOdds(n int, streets [][]int) []int {
	odds := []int{}
	for c := range n {
		even := true
		for _, s := range streets {
			for _, end := range s[:2] {
				if end == c {
					even = !even
				}
			}
		}
		if !even {
			odds = append(odds, c)
		}
	}
	return odds
}

// rightRound tries all streets to be walked twice: it is a round if no corner is odd then.
func rightRound(n int, streets [][]int) int {
	best := -1
	for set := range 1 << len(streets) {
		walked := slices.Clone(streets)
		for i, s := range streets {
			if set>>i&1 == 1 {
				walked = append(walked, s)
			}
		}
		if cost := allLengths(walked); len(rightOdds(n, walked)) == 0 && (best < 0 || cost < best) {
			best = cost
		}
	}
	return best
}

// rightOnce tries all ways over the streets left, the first streets first: what may go on to a round is that behind which all that are left are reached.
func rightOnce(streets [][]int, at int, walked []int) ([]int, bool) {
	if len(walked) == len(streets) {
		return walked, at == 0
	}
	for i, s := range streets {
		for turn := range 2 {
			if s[turn] != at || slices.Contains(walked, i) {
				continue
			}
			if round, ok := rightOnce(streets, s[1-turn], append(slices.Clone(walked), i)); ok {
				return round, true
			}
		}
	}
	return nil, false
}

func TestLimitsOfRounds(t *testing.T) {
	if impl.MaxCorners != 5 || impl.MaxStreets != 7 {
		t.Error("a limit of chapter 4 is not that of the document")
	}
}

func TestValidTown(t *testing.T) {
	for _, c := range append(manyTowns(), town{1, nil}, town{1, [][]int{}}, town{1, [][]int{{0, 0, 1}}}, town{2, [][]int{{1, 0, 20}}}, town{4, [][]int{{2, 3, 1}, {3, 1, 1}, {0, 1, 1}}}, town{5, [][]int{{4, 3, 1}, {3, 2, 1}, {2, 1, 1}, {1, 0, 1}, {0, 0, 1}, {4, 4, 1}, {2, 2, 20}}}) {
		if !impl.ValidTown(c.n, c.streets) {
			t.Errorf("ValidTown(%d, %v) is false", c.n, c.streets)
		}
	}
	for _, c := range notTowns {
		if impl.ValidTown(c.n, c.streets) {
			t.Errorf("ValidTown(%d, %v) is true", c.n, c.streets)
		}
	}
	for n := 1; n <= 3; n++ {
		for _, streets := range fewStreets(n) {
			if got := impl.ValidTown(n, streets); got != reachesAll(n, streets) {
				t.Errorf("ValidTown(%d, %v) = %t", n, streets, got)
			}
		}
	}
}

func TestRoundsOfOthers(t *testing.T) {
	for _, c := range notTowns {
		if got := impl.ApartOf(c.n, c.streets); len(got) != 0 {
			t.Errorf("ApartOf(%d, %v) = %v, not nothing", c.n, c.streets, got)
		}
		if got := impl.OddsOf(c.n, c.streets); len(got) != 0 {
			t.Errorf("OddsOf(%d, %v) = %v, not nothing", c.n, c.streets, got)
		}
		if got := impl.RoundCost(c.n, c.streets); got != -1 {
			t.Errorf("RoundCost(%d, %v) = %d, not -1", c.n, c.streets, got)
		}
		if got := impl.RoundTried(c.n, c.streets); got != -1 {
			t.Errorf("RoundTried(%d, %v) = %d, not -1", c.n, c.streets, got)
		}
		if got, ok := impl.OnceRound(c.n, c.streets); ok || len(got) != 0 {
			t.Errorf("OnceRound(%d, %v) = %v, %t, not nothing and false", c.n, c.streets, got, ok)
		}
	}
}

// Promise 19.
func TestTownsMayHaveMoreStreets(t *testing.T) {
	for _, c := range manyTowns() {
		if len(c.streets) == 0 {
			continue
		}
		more := append(slices.Clone(c.streets), c.streets[0])
		if got, want := impl.ValidTown(c.n, more), len(more) <= 7; got != want {
			t.Fatalf("ValidTown(%d, %v) = %t", c.n, more, got)
		}
		ahead := slices.Insert(slices.Clone(c.streets), 0, c.streets[0])
		if got, want := impl.ValidTown(c.n, ahead), len(ahead) <= 7; got != want {
			t.Fatalf("ValidTown(%d, %v) = %t", c.n, ahead, got)
		}
	}
}

func TestApartOfKnown(t *testing.T) {
	for _, c := range []struct {
		town
		want [][]int
	}{
		{town{1, nil}, [][]int{{0}}}, {town{1, sevenLoops}, [][]int{{0}}},
		{town{2, [][]int{{1, 0, 20}}}, [][]int{{0, 20}, {20, 0}}}, {town{2, [][]int{{0, 1, 9}, {1, 0, 4}, {0, 1, 6}, {1, 1, 1}}}, [][]int{{0, 4}, {4, 0}}},
		{town{3, [][]int{{0, 1, 2}, {1, 2, 3}, {2, 0, 20}}}, [][]int{{0, 2, 5}, {2, 0, 3}, {5, 3, 0}}},
		{town{5, [][]int{{3, 4, 20}, {2, 3, 20}, {1, 2, 20}, {0, 1, 20}}}, [][]int{{0, 20, 40, 60, 80}, {20, 0, 20, 40, 60}, {40, 20, 0, 20, 40}, {60, 40, 20, 0, 20}, {80, 60, 40, 20, 0}}},
		{town{5, [][]int{{0, 4, 20}, {0, 3, 1}, {3, 1, 2}, {1, 2, 3}, {2, 4, 4}}}, [][]int{{0, 3, 6, 1, 10}, {3, 0, 3, 2, 7}, {6, 3, 0, 5, 4}, {1, 2, 5, 0, 9}, {10, 7, 4, 9, 0}}},
	} {
		if got := impl.ApartOf(c.n, c.streets); !slices.EqualFunc(got, c.want, slices.Equal) {
			t.Errorf("ApartOf(%d, %v) = %v, not %v", c.n, c.streets, got, c.want)
		}
	}
}

// Promise 20.
func TestWaysAreTheSameBothWaysAndShortest(t *testing.T) {
	for _, c := range manyTowns() {
		got := impl.ApartOf(c.n, c.streets)
		if len(got) != c.n {
			t.Fatalf("ApartOf(%d, %v) = %v", c.n, c.streets, got)
		}
		for a := range c.n {
			if len(got[a]) != c.n {
				t.Fatalf("ApartOf(%d, %v) = %v", c.n, c.streets, got)
			}
			for b := range c.n {
				if want := rightApart(c.streets, a, b); got[a][b] != want || got[b][a] != want {
					t.Fatalf("ApartOf(%d, %v) = %v, not %d from %d to %d and back", c.n, c.streets, got, want, a, b)
				}
				for via := range c.n {
					if got[a][b] > got[a][via]+got[via][b] {
						t.Fatalf("ApartOf(%d, %v) = %v, but there is a shorter way from %d to %d over %d", c.n, c.streets, got, a, b, via)
					}
				}
			}
		}
		for _, s := range c.streets {
			if got[s[0]][s[1]] > s[2] {
				t.Fatalf("ApartOf(%d, %v) = %v, but the street %v is shorter", c.n, c.streets, got, s)
			}
		}
	}
}

func TestOddsOfKnown(t *testing.T) {
	for _, c := range []struct {
		town
		want []int
	}{
		{town{1, nil}, nil}, {town{1, [][]int{{0, 0, 7}}}, nil}, {town{1, sevenLoops}, nil},
		{town{2, [][]int{{1, 0, 3}}}, []int{0, 1}}, {town{2, [][]int{{1, 0, 3}, {1, 1, 3}, {0, 0, 3}}}, []int{0, 1}}, {town{2, [][]int{{1, 0, 3}, {1, 0, 3}}}, nil}, {town{2, [][]int{{1, 0, 3}, {0, 1, 3}, {1, 0, 3}}}, []int{0, 1}},
		{town{3, [][]int{{1, 2, 3}, {0, 1, 2}}}, []int{0, 2}}, {town{3, [][]int{{0, 1, 2}, {1, 2, 3}, {2, 0, 4}}}, nil}, {town{3, [][]int{{2, 0, 1}, {0, 1, 1}, {2, 2, 1}}}, []int{1, 2}},
		{town{4, [][]int{{3, 0, 1}, {2, 0, 1}, {1, 0, 1}}}, []int{0, 1, 2, 3}}, {town{5, [][]int{{4, 0, 1}, {3, 0, 1}, {2, 0, 1}, {1, 0, 1}}}, []int{1, 2, 3, 4}},
	} {
		if got := impl.OddsOf(c.n, c.streets); !slices.Equal(got, c.want) {
			t.Errorf("OddsOf(%d, %v) = %v, not %v", c.n, c.streets, got, c.want)
		}
	}
}

// Promise 21.
func TestOddCornersAreEvenInNumber(t *testing.T) {
	for _, c := range manyTowns() {
		got := impl.OddsOf(c.n, c.streets)
		if want := rightOdds(c.n, c.streets); !slices.Equal(got, want) {
			t.Fatalf("OddsOf(%d, %v) = %v, not %v", c.n, c.streets, got, want)
		}
		if len(got)%2 != 0 {
			t.Fatalf("OddsOf(%d, %v) = %v, an odd number", c.n, c.streets, got)
		}
		twice := slices.Concat(c.streets, c.streets)
		if got := impl.OddsOf(c.n, twice); len(got) != 0 {
			t.Fatalf("OddsOf(%d, %v) = %v, with each street twice", c.n, twice, got)
		}
	}
}

func TestRoundsKnown(t *testing.T) {
	for _, c := range []struct {
		town
		want int
	}{
		{town{1, nil}, 0}, {town{1, [][]int{}}, 0}, {town{1, [][]int{{0, 0, 7}}}, 7}, {town{1, sevenLoops}, 108},
		{town{2, [][]int{{1, 0, 20}}}, 40}, {town{2, [][]int{{0, 1, 3}, {1, 0, 5}}}, 8}, {town{2, [][]int{{0, 1, 3}, {1, 0, 5}, {0, 1, 9}}}, 20}, {town{2, [][]int{{1, 1, 4}, {1, 0, 5}}}, 14},
		{town{3, [][]int{{0, 1, 2}, {1, 2, 3}}}, 10}, {town{3, [][]int{{0, 1, 2}, {1, 2, 3}, {2, 0, 4}}}, 9}, {town{3, [][]int{{1, 2, 3}, {2, 1, 4}, {1, 0, 6}}}, 19},
		{town{4, [][]int{{0, 1, 20}, {0, 2, 20}, {0, 3, 20}}}, 120}, {town{4, [][]int{{0, 1, 1}, {1, 2, 9}, {2, 3, 1}, {3, 0, 9}, {0, 2, 6}, {1, 3, 6}}}, 34},
		{town{4, [][]int{{0, 1, 1}, {1, 2, 2}, {2, 3, 1}, {3, 0, 2}, {0, 2, 20}, {1, 3, 20}}}, 48}, {town{5, [][]int{{0, 1, 20}, {1, 2, 20}, {2, 3, 20}, {3, 4, 20}}}, 160},
		{town{5, [][]int{{0, 1, 20}, {1, 0, 20}, {0, 2, 20}, {2, 3, 20}, {3, 0, 20}, {3, 4, 20}, {4, 3, 20}}}, 140}, {town{5, [][]int{{4, 3, 20}, {3, 2, 20}, {2, 1, 20}, {1, 0, 20}, {4, 4, 20}, {4, 4, 20}, {4, 4, 20}}}, 220},
	} {
		if got := impl.RoundCost(c.n, c.streets); got != c.want {
			t.Errorf("RoundCost(%d, %v) = %d, not %d", c.n, c.streets, got, c.want)
		}
		if got := impl.RoundTried(c.n, c.streets); got != c.want {
			t.Errorf("RoundTried(%d, %v) = %d, not %d", c.n, c.streets, got, c.want)
		}
	}
}

// Promise 22.
func TestRoundsByPairsAreRoundsThatAreTried(t *testing.T) {
	for _, c := range manyTowns() {
		want, all := rightRound(c.n, c.streets), allLengths(c.streets)
		cost, tried := impl.RoundCost(c.n, c.streets), impl.RoundTried(c.n, c.streets)
		if cost != want || tried != want {
			t.Fatalf("RoundCost(%d, %v) = %d, and RoundTried %d, not %d", c.n, c.streets, cost, tried, want)
		}
		if cost < all || cost > 2*all {
			t.Fatalf("RoundCost(%d, %v) = %d, but all streets are %d", c.n, c.streets, cost, all)
		}
		if odds := impl.OddsOf(c.n, c.streets); (cost == all) != (len(odds) == 0) {
			t.Fatalf("RoundCost(%d, %v) = %d, but all streets are %d, and OddsOf %v", c.n, c.streets, cost, all, odds)
		}
	}
}

// Promise 23.
func TestLongerStreetsAreNoShorter(t *testing.T) {
	for _, c := range manyTowns() {
		if len(c.streets) == 0 {
			continue
		}
		first := c.streets[0]
		longer := slices.Clone(c.streets)
		longer[0] = []int{first[0], first[1], first[2] + 1}
		got, more := impl.RoundTried(c.n, c.streets), impl.RoundTried(c.n, longer)
		if first[2] == 20 {
			if more != -1 {
				t.Fatalf("RoundTried(%d, %v) = %d, not -1", c.n, longer, more)
			}
			continue
		}
		if more != got+1 && more != got+2 {
			t.Fatalf("RoundTried(%d, %v) = %d, and %d with the first street 1 longer", c.n, c.streets, got, more)
		}
	}
}

func TestOnceRoundKnown(t *testing.T) {
	for _, c := range []struct {
		town
		want []int
		ok   bool
	}{
		{town{1, nil}, nil, true}, {town{1, [][]int{}}, nil, true}, {town{1, [][]int{{0, 0, 7}}}, []int{0}, true}, {town{1, sevenLoops}, []int{0, 1, 2, 3, 4, 5, 6}, true},
		{town{2, [][]int{{0, 1, 3}}}, nil, false}, {town{2, [][]int{{0, 1, 3}, {1, 0, 5}, {0, 1, 9}}}, nil, false}, {town{3, [][]int{{0, 1, 3}, {1, 2, 5}}}, nil, false}, {town{3, [][]int{{0, 1, 3}, {1, 2, 5}, {2, 1, 5}}}, nil, false},
		{town{2, [][]int{{0, 1, 3}, {1, 0, 5}}}, []int{0, 1}, true}, {town{2, [][]int{{1, 1, 3}, {1, 0, 5}, {0, 1, 5}}}, []int{1, 0, 2}, true},
		{town{2, [][]int{{0, 1, 3}, {0, 1, 3}, {1, 1, 3}}}, []int{0, 2, 1}, true}, {town{2, [][]int{{0, 1, 3}, {1, 0, 5}, {0, 0, 2}}}, []int{0, 1, 2}, true},
		{town{3, [][]int{{2, 1, 1}, {0, 2, 1}, {1, 0, 1}}}, []int{1, 0, 2}, true}, {town{3, [][]int{{0, 1, 1}, {1, 0, 1}, {1, 2, 1}, {2, 1, 1}}}, []int{0, 2, 3, 1}, true},
		{town{5, [][]int{{0, 1, 1}, {1, 2, 1}, {2, 0, 1}, {0, 3, 1}, {3, 4, 1}, {4, 0, 1}, {4, 4, 1}}}, []int{0, 1, 2, 3, 4, 6, 5}, true}, {town{5, [][]int{{0, 1, 1}, {0, 1, 1}, {1, 2, 1}, {2, 3, 1}, {3, 4, 1}, {4, 1, 1}, {3, 3, 1}}}, []int{0, 2, 3, 6, 4, 5, 1}, true},
	} {
		if got, ok := impl.OnceRound(c.n, c.streets); ok != c.ok || !slices.Equal(got, c.want) {
			t.Errorf("OnceRound(%d, %v) = %v, %t, not %v, %t", c.n, c.streets, got, ok, c.want, c.ok)
		}
	}
}

// backToStart reports whether the streets are one behind the other from the corner 0 back to it.
func backToStart(streets [][]int, round []int) bool {
	at := 0
	for _, i := range round {
		switch at {
		case streets[i][0]:
			at = streets[i][1]
		case streets[i][1]:
			at = streets[i][0]
		default:
			return false
		}
	}
	return at == 0
}

// Promise 24.
func TestRoundsGoOnceOverEachStreet(t *testing.T) {
	rounds := 0
	for _, c := range manyTowns() {
		got, ok := impl.OnceRound(c.n, c.streets)
		if want := len(rightOdds(c.n, c.streets)) == 0; ok != want {
			t.Fatalf("OnceRound(%d, %v) = %v, %t", c.n, c.streets, got, ok)
		}
		if !ok {
			if len(got) != 0 {
				t.Fatalf("OnceRound(%d, %v) = %v and false", c.n, c.streets, got)
			}
			continue
		}
		rounds++
		if once := slices.Sorted(slices.Values(got)); !slices.Equal(once, inOrder(len(c.streets))) || !backToStart(c.streets, got) {
			t.Fatalf("OnceRound(%d, %v) = %v is no round", c.n, c.streets, got)
		}
		if want, _ := rightOnce(c.streets, 0, nil); !slices.Equal(got, want) {
			t.Fatalf("OnceRound(%d, %v) = %v, not %v", c.n, c.streets, got, want)
		}
	}
	if rounds < 1000 {
		t.Fatalf("only %d towns have no odd corners", rounds)
	}
}

// Promise 73.
func TestEachStreetTwiceIsARound(t *testing.T) {
	for _, c := range manyTowns() {
		twice := slices.Concat(c.streets, c.streets)
		got, ok := impl.OnceRound(c.n, twice)
		if len(twice) > 7 {
			if ok || len(got) != 0 {
				t.Fatalf("OnceRound(%d, %v) = %v, %t, not nothing and false", c.n, twice, got, ok)
			}
			continue
		}
		length := 0
		for _, i := range got {
			length += twice[i][2]
		}
		if !ok || len(got) != len(twice) || length != 2*allLengths(c.streets) || !backToStart(twice, got) {
			t.Fatalf("OnceRound(%d, %v) = %v, %t", c.n, twice, got, ok)
		}
		if cost := impl.RoundCost(c.n, twice); cost != length {
			t.Fatalf("RoundCost(%d, %v) = %d, not %d", c.n, twice, cost, length)
		}
	}
}

// Promise 74.
func TestRoundsAreAtLeastThereAndBack(t *testing.T) {
	for _, c := range manyTowns() {
		cost := impl.RoundCost(c.n, c.streets)
		for corner, way := range impl.ApartOf(c.n, c.streets)[0] {
			if cost < 2*way {
				t.Fatalf("RoundCost(%d, %v) = %d, but the corner %d is %d away", c.n, c.streets, cost, corner, way)
			}
		}
	}
}

func TestTownsAreNotChangedNorKept(t *testing.T) {
	cells := []int{0, 1, 2, 1, 0, 3, 1, 1, 4}
	whole := [][]int{cells[0:3], cells[3:6], cells[6:9], {9, 9, 9}}
	list := whole[:3]
	unchanged := func(what string) {
		t.Helper()
		if !slices.Equal(cells, []int{0, 1, 2, 1, 0, 3, 1, 1, 4}) {
			t.Fatalf("%s: the streets became %v", what, cells)
		}
		for i := range list {
			if len(whole[i]) != 3 || &whole[i][0] != &cells[3*i] {
				t.Fatalf("%s: the street %d is another one", what, i)
			}
		}
		if !slices.Equal(whole[3], []int{9, 9, 9}) {
			t.Fatalf("%s: what is behind the streets became %v", what, whole[3])
		}
	}
	impl.ValidTown(2, list)
	impl.RoundCost(2, list)
	impl.RoundTried(2, list)
	unchanged("questions")
	for range 2 {
		round, ok := impl.OnceRound(2, list)
		if !ok || !slices.Equal(round, []int{0, 2, 1}) {
			t.Fatalf("OnceRound keeps what was done to its result: %v", round)
		}
		spoil(round)
		unchanged("OnceRound")
		odds := impl.OddsOf(2, list[:1])
		if !slices.Equal(odds, []int{0, 1}) {
			t.Fatalf("OddsOf keeps what was done to its result: %v", odds)
		}
		spoil(odds)
		unchanged("OddsOf")
	}
	for i, want := range [][]int{{-7, -7, 2, 0}, {0, 2, -7, -7}} {
		apart := impl.ApartOf(2, list)
		spoil(apart[i])
		unchanged("ApartOf")
		if got := slices.Concat(apart...); !slices.Equal(got, want) {
			t.Fatalf("what was done to the row %d made the rows %v", i, apart)
		}
	}
}
