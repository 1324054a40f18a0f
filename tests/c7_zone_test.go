package tests

import (
	"cmp"
	"slices"
	"testing"

	"loop.example/lettersthatarrive/impl"
)

// notZoneRates has what are not rates between zones, each for one reason.
var notZoneRates = [][][]int{
	nil, {}, {nil}, {{}}, {{0, 0}}, {{0, 1}}, {{0}, {0}}, {{0, 1}, {1}}, {{0, 1}, nil}, {{0}, {1, 0}}, {{0, 1}, {1, 0, 2}}, {{0, 1, 2}, {1, 0, 3}}, {{0, 1, 2}, {1, 0, 2}, {1, 2}}, {nil, nil}, {{}, {}, {}},
	{{1}}, {{-1}}, {{140}}, {{1, 1}, {1, 0}}, {{0, 1}, {1, 1}}, {{0, 1}, {1, -1}}, {{0, 1, 1}, {1, 2, 1}, {1, 1, 0}}, {{0, 1, 1}, {1, 0, 1}, {1, 1, 140}},
	{{0, -1}, {1, 0}}, {{0, 1}, {-1, 0}}, {{0, 141}, {1, 0}}, {{0, 1}, {141, 0}}, {{0, 1 << 62}, {1, 0}}, {{0, 1}, {-1 << 63, 0}}, {{0, 1, 141}, {1, 0, 1}, {1, 1, 0}}, {{0, 1, 1}, {1, 0, 1}, {1, -1, 0}}, {{0, 1<<63 - 1, 1}, {1, 0, 1<<63 - 1}, {1, 1, 0}},
	evenRates(6, 0), evenRates(6, 7), evenRates(7, 140), evenRates(5, 141), evenRates(5, -1), evenRates(6, 1)[:5], evenRates(5, 1)[:4],
}

// notZonesOf returns what are not zones of so many.
func notZonesOf(n int) []int {
	return []int{-1, -n, n, n + 1, 6, 140, 1 << 62, 1<<63 - 1, -1 << 63}
}

// evenRates returns rates of n zones that are all the same.
func evenRates(n, rate int) [][]int {
	a := make([][]int, n)
	for i := range a {
		a[i] = slices.Repeat([]int{rate}, n)
		a[i][i] = 0
	}
	return a
}

// allRates returns all rates of n zones that are among some.
func allRates(n int, some ...int) [][][]int {
	lists := [][][]int{evenRates(n, 0)}
	for i := range n {
		for k := range n {
			if i == k {
				continue
			}
			var longer [][][]int
			for _, a := range lists {
				for _, rate := range some {
					b := cloneRates(a)
					b[i][k] = rate
					longer = append(longer, b)
				}
			}
			lists = longer
		}
	}
	return lists
}

func cloneRates(a [][]int) [][]int {
	b := make([][]int, len(a))
	for i := range a {
		b[i] = slices.Clone(a[i])
	}
	return b
}

// ratesAlong returns rates that are one from each zone of an order to the next one, and another one otherwise.
func ratesAlong(order []int, along, other int) [][]int {
	a := evenRates(len(order), other)
	for place := 1; place < len(order); place++ {
		a[order[place-1]][order[place]] = along
	}
	return a
}

// fewRates returns all rates of up to two zones at the limits, and of three and four zones of few rates.
func fewRates() [][][]int {
	return slices.Concat([][][]int{{{0}}}, allRates(2, 0, 1, 2, 139, 140), allRates(3, 0, 1, 2, 3), allRates(3, 0, 70, 140), allRates(4, 0, 1))
}

// manyRates returns the few rates, rates along chains of all zones, and rates of four and five zones that follow a rule.
func manyRates() [][][]int {
	lists := fewRates()
	for n := 1; n <= 5; n++ {
		for _, rate := range []int{0, 1, 140} {
			lists = append(lists, evenRates(n, rate))
		}
		for _, order := range allRows(n) {
			lists = append(lists, ratesAlong(order, 0, 1), ratesAlong(order, 34, 140), ratesAlong(order, 35, 140), ratesAlong(order, 1, 2), ratesAlong(order, 1, 3))
		}
	}
	next := 1
	draw := func(n int) int {
		next = (next*1103 + 12347) % 1000003
		return next / 7 % n
	}
	for _, n := range []int{4, 5} {
		for _, limits := range [][]int{{0, 1}, {0, 2}, {1, 2}, {1, 3}, {1, 5}, {0, 9}, {0, 140}, {60, 140}} {
			for range 100 {
				a := evenRates(n, 0)
				for i := range n {
					for k := range n {
						if i != k {
							a[i][k] = limits[0] + draw(limits[1]-limits[0]+1)
						}
					}
				}
				lists = append(lists, a)
			}
		}
	}
	return lists
}

// turned returns the rates with both zones exchanged.
func turned(a [][]int) [][]int {
	b := cloneRates(a)
	for i := range a {
		for k := range a[i] {
			b[k][i] = a[i][k]
		}
	}
	return b
}

// everyChain goes all chains on to the zone k, no zone twice, and calls be with each one.
func everyChain(n int, chain []int, k int, be func(chain []int)) {
	if chain[len(chain)-1] == k {
		be(chain)
		return
	}
	for zone := range n {
		if !slices.Contains(chain, zone) {
			everyChain(n, append(slices.Clone(chain), zone), k, be)
		}
	}
}

func sumOf(a [][]int, chain []int) int {
	sum := 0
	for place := 1; place < len(chain); place++ {
		sum += a[chain[place-1]][chain[place]]
	}
	return sum
}

// rightChain looks at all chains, those with greater numbers first.
func rightChain(a [][]int, i, k int) []int {
	var chains [][]int
	everyChain(len(a), []int{i}, k, func(chain []int) { chains = append(chains, chain) })
	slices.Reverse(chains)
	return slices.MinFunc(chains, func(c, d []int) int {
		return cmp.Or(cmp.Compare(sumOf(a, c), sumOf(a, d)), cmp.Compare(len(c), len(d)), slices.Compare(c, d))
	})
}

// rightCheapest looks at all chains.
func rightCheapest(a [][]int) [][]int {
	cheapest := evenRates(len(a), 0)
	for i := range a {
		for k := range a {
			cheapest[i][k] = sumOf(a, rightChain(a, i, k))
		}
	}
	return cheapest
}

// rightFair looks at all three different zones.
func rightFair(a [][]int) bool {
	for i := range a {
		for k := range a {
			for third := range a {
				if i != k && third != i && third != k && a[i][k] > a[i][third]+a[third][k] {
					return false
				}
			}
		}
	}
	return true
}

// rightHub is the sum of the chain over the hub.
func rightHub(a [][]int, hub int) [][]int {
	costs := evenRates(len(a), 0)
	for i := range a {
		for k := range a {
			if i != k {
				costs[i][k] = sumOf(a, []int{i, hub, k})
			}
		}
	}
	return costs
}

func sameRates(a, b [][]int) bool {
	return slices.EqualFunc(a, b, slices.Equal)
}

// noDearer reports whether no rate is more than the other one between the same zones.
func noDearer(a, others [][]int) bool {
	for i := range a {
		for k := range a[i] {
			if a[i][k] > others[i][k] {
				return false
			}
		}
	}
	return true
}

func TestLimitsOfZones(t *testing.T) {
	if impl.MaxZones != 5 || impl.MaxRate != 140 {
		t.Error("a limit of chapter 7 is not that of the document")
	}
}

func TestValidRates(t *testing.T) {
	for _, a := range manyRates() {
		if !impl.ValidRates(a) {
			t.Fatalf("ValidRates(%v) is false", a)
		}
	}
	for _, a := range notZoneRates {
		if impl.ValidRates(a) {
			t.Errorf("ValidRates(%v) is true", a)
		}
	}
}

// Each rate of up to five zones is exchanged for others, at the limits and one more among them.
func TestValidRatesOfEachRate(t *testing.T) {
	for n := 1; n <= 5; n++ {
		for _, rate := range []int{0, 7, 140} {
			for i := range n {
				for k := range n {
					for _, other := range []int{-1 << 63, -141, -140, -1, 0, 1, 70, 139, 140, 141, 142, 1 << 62, 1<<63 - 1} {
						a := evenRates(n, rate)
						a[i][k] = other
						want := other == 0 || i != k && other > 0 && other <= 140
						if got := impl.ValidRates(a); got != want {
							t.Errorf("ValidRates(%v) is %t", a, got)
						}
					}
				}
			}
		}
	}
}

// Rows of all lengths are tried, so many rows as there are zones, and others.
func TestValidRatesOfAllLengths(t *testing.T) {
	for n := range 9 {
		for length := range 9 {
			all := slices.Repeat([][]int{make([]int, length)}, n)
			if got, want := impl.ValidRates(all), n >= 1 && n <= 5 && length == n; got != want {
				t.Errorf("ValidRates of %d rows of %d is %t", n, length, got)
			}
			for i := range n {
				one := evenRates(n, 0)
				one[i] = make([]int, length)
				if got, want := impl.ValidRates(one), n <= 5 && length == n; got != want {
					t.Errorf("ValidRates of %d rows of as many, but the row %d of %d, is %t", n, i, length, got)
				}
			}
		}
	}
}

func TestZonesOfOtherRates(t *testing.T) {
	for _, a := range notZoneRates {
		if got := impl.CheapestOf(a); len(got) != 0 {
			t.Errorf("CheapestOf(%v) = %v, not nothing", a, got)
		}
		if impl.IsFair(a) {
			t.Errorf("IsFair(%v) is true", a)
		}
		for i := -1; i <= 7; i++ {
			if got := impl.HubCost(a, i); len(got) != 0 {
				t.Errorf("HubCost(%v, %d) = %v, not nothing", a, i, got)
			}
			for k := -1; k <= 7; k++ {
				if got := impl.ChainOf(a, i, k); len(got) != 0 {
					t.Errorf("ChainOf(%v, %d, %d) = %v, not nothing", a, i, k, got)
				}
			}
		}
	}
}

func TestOtherZones(t *testing.T) {
	for n := 1; n <= 5; n++ {
		a := evenRates(n, 3)
		for _, other := range notZonesOf(n) {
			if got := impl.HubCost(a, other); len(got) != 0 {
				t.Errorf("HubCost(%v, %d) = %v, not nothing", a, other, got)
			}
			if got := impl.ChainOf(a, other, other); len(got) != 0 {
				t.Errorf("ChainOf(%v, %d, %d) = %v, not nothing", a, other, other, got)
			}
			for zone := range n {
				if got := impl.ChainOf(a, zone, other); len(got) != 0 {
					t.Errorf("ChainOf(%v, %d, %d) = %v, not nothing", a, zone, other, got)
				}
				if got := impl.ChainOf(a, other, zone); len(got) != 0 {
					t.Errorf("ChainOf(%v, %d, %d) = %v, not nothing", a, other, zone, got)
				}
			}
		}
	}
}

func TestOneZone(t *testing.T) {
	one := [][]int{{0}}
	if !impl.ValidRates(one) || !impl.IsFair(one) {
		t.Error("one zone has no rates, or they are not fair")
	}
	if got := impl.CheapestOf(one); !sameRates(got, one) {
		t.Errorf("CheapestOf(%v) = %v", one, got)
	}
	if got := impl.ChainOf(one, 0, 0); !slices.Equal(got, []int{0}) {
		t.Errorf("ChainOf(%v, 0, 0) = %v", one, got)
	}
	if got := impl.HubCost(one, 0); !sameRates(got, one) {
		t.Errorf("HubCost(%v, 0) = %v", one, got)
	}
}

// With all rates 0 any chain is as cheap, so that of the two zones is chosen.
func TestRatesOf0(t *testing.T) {
	for n := 1; n <= 5; n++ {
		a := evenRates(n, 0)
		if got := impl.CheapestOf(a); !sameRates(got, a) || !impl.IsFair(a) {
			t.Errorf("CheapestOf(%v) = %v, and it is %t that they are fair", a, got, impl.IsFair(a))
		}
		for i := range n {
			if got := impl.HubCost(a, i); !sameRates(got, a) {
				t.Errorf("HubCost(%v, %d) = %v", a, i, got)
			}
			for k := range n {
				if got := impl.ChainOf(a, i, k); !slices.Equal(got, slices.Compact([]int{i, k})) {
					t.Errorf("ChainOf(%v, %d, %d) = %v", a, i, k, got)
				}
			}
		}
	}
}

func TestChainsOfAllZones(t *testing.T) {
	for n := 1; n <= 5; n++ {
		for _, order := range allRows(n) {
			for _, rates := range [][]int{{0, 1}, {0, 140}, {1, 140}, {34, 140}} {
				a := ratesAlong(order, rates[0], rates[1])
				first, last := order[0], order[n-1]
				if got := impl.ChainOf(a, first, last); !slices.Equal(got, order) {
					t.Errorf("ChainOf(%v, %d, %d) = %v, not %v", a, first, last, got, order)
				}
				if got := impl.CheapestOf(a)[first][last]; got != (n-1)*rates[0] {
					t.Errorf("CheapestOf(%v) has %d from %d to %d", a, got, first, last)
				}
				if got := impl.IsFair(a); got != (n <= 2) {
					t.Errorf("IsFair(%v) is %t", a, got)
				}
			}
		}
	}
	// Four rates of 35 are 140, as the one rate is.
	same := ratesAlong([]int{0, 1, 2, 3, 4}, 35, 140)
	if got := impl.ChainOf(same, 0, 4); !slices.Equal(got, []int{0, 4}) {
		t.Errorf("ChainOf(%v, 0, 4) = %v", same, got)
	}
}

func TestCheapestOfKnown(t *testing.T) {
	for _, c := range []struct{ a, want [][]int }{
		{[][]int{{0, 5, 9}, {5, 0, 2}, {1, 7, 0}}, [][]int{{0, 5, 7}, {3, 0, 2}, {1, 6, 0}}},
		{[][]int{{0, 140}, {0, 0}}, [][]int{{0, 140}, {0, 0}}},
		{[][]int{{0, 140, 70}, {140, 0, 140}, {140, 69, 0}}, [][]int{{0, 139, 70}, {140, 0, 140}, {140, 69, 0}}},
		{[][]int{{0, 9, 9, 1}, {1, 0, 9, 9}, {9, 1, 0, 9}, {9, 9, 1, 0}}, [][]int{{0, 3, 2, 1}, {1, 0, 3, 2}, {2, 1, 0, 3}, {3, 2, 1, 0}}},
		{[][]int{{0, 1, 9, 9, 9}, {9, 0, 1, 9, 9}, {9, 9, 0, 1, 9}, {9, 9, 9, 0, 1}, {1, 9, 9, 9, 0}}, [][]int{{0, 1, 2, 3, 4}, {4, 0, 1, 2, 3}, {3, 4, 0, 1, 2}, {2, 3, 4, 0, 1}, {1, 2, 3, 4, 0}}},
	} {
		if got := impl.CheapestOf(c.a); !sameRates(got, c.want) {
			t.Errorf("CheapestOf(%v) = %v, not %v", c.a, got, c.want)
		}
	}
}

func TestIsFairKnown(t *testing.T) {
	for _, c := range []struct {
		a    [][]int
		want bool
	}{
		{[][]int{{0, 0}, {140, 0}}, true}, {[][]int{{0, 5, 9}, {5, 0, 2}, {1, 7, 0}}, false},
		{[][]int{{0, 5, 7}, {3, 0, 2}, {1, 6, 0}}, true}, {[][]int{{0, 5, 8}, {3, 0, 2}, {1, 6, 0}}, false}, {[][]int{{0, 5, 7}, {3, 0, 2}, {1, 7, 0}}, false},
		{[][]int{{0, 140, 70}, {140, 0, 140}, {140, 70, 0}}, true}, {[][]int{{0, 140, 70}, {140, 0, 140}, {140, 69, 0}}, false},
		{evenRates(5, 140), true}, {evenRates(4, 1), true}, {ratesAlong([]int{4, 3, 2, 1, 0}, 1, 2), true}, {ratesAlong([]int{4, 3, 2, 1, 0}, 1, 3), false}, {ratesAlong([]int{0, 1, 2, 3, 4}, 70, 140), true}, {ratesAlong([]int{0, 1, 2, 3, 4}, 69, 140), false},
	} {
		if got := impl.IsFair(c.a); got != c.want {
			t.Errorf("IsFair(%v) is %t", c.a, got)
		}
	}
}

func TestChainOfKnown(t *testing.T) {
	// From 0 to 3, and from 0 to 4, several chains have the least sum.
	a := [][]int{{0, 1, 1, 4, 9}, {9, 0, 1, 2, 9}, {9, 1, 0, 2, 9}, {9, 9, 9, 0, 1}, {1, 9, 9, 9, 0}}
	for _, c := range []struct {
		a    [][]int
		i, k int
		want []int
	}{
		{a, 0, 3, []int{0, 1, 3}}, {a, 0, 4, []int{0, 1, 3, 4}}, {a, 1, 0, []int{1, 3, 4, 0}}, {a, 2, 1, []int{2, 1}}, {a, 3, 1, []int{3, 4, 0, 1}}, {a, 3, 2, []int{3, 4, 0, 2}}, {a, 4, 3, []int{4, 0, 1, 3}}, {a, 3, 3, []int{3}}, {a, 0, 0, []int{0}}, {a, 4, 4, []int{4}},
		// Of two chains of as many zones the one with the first lesser rate has the greater number.
		{[][]int{{0, 2, 1, 9, 9}, {9, 0, 9, 9, 1}, {9, 9, 0, 9, 2}, {9, 9, 9, 0, 9}, {9, 9, 9, 9, 0}}, 0, 4, []int{0, 1, 4}},
		// Over 1 and 3, over 2 and 3, and over 3 alone it is as much.
		{[][]int{{0, 2, 1, 3, 9}, {9, 0, 9, 1, 9}, {9, 9, 0, 2, 9}, {9, 9, 9, 0, 1}, {9, 9, 9, 9, 0}}, 0, 4, []int{0, 3, 4}},
		// Over 1 and 3, and over 2 and 3, it is as much, and over 3 alone more.
		{[][]int{{0, 2, 1, 4, 9}, {9, 0, 9, 1, 9}, {9, 9, 0, 2, 9}, {9, 9, 9, 0, 1}, {9, 9, 9, 9, 0}}, 0, 4, []int{0, 1, 3, 4}},
		// Over 3 and 1, and over 3 and 2, it is as much.
		{[][]int{{0, 9, 9, 1, 9}, {9, 0, 9, 9, 2}, {9, 9, 0, 9, 1}, {9, 1, 2, 0, 9}, {9, 9, 9, 9, 0}}, 0, 4, []int{0, 3, 1, 4}},
		{[][]int{{0, 1, 9, 1, 9}, {9, 0, 9, 1, 9}, {1, 9, 0, 1, 9}, {9, 1, 9, 0, 1}, {9, 9, 9, 9, 0}}, 2, 4, []int{2, 3, 4}},
		{[][]int{{0, 9, 1, 9, 9}, {9, 0, 9, 1, 9}, {9, 9, 0, 9, 1}, {1, 1, 9, 0, 9}, {9, 9, 9, 9, 0}}, 3, 4, []int{3, 0, 2, 4}},
		{[][]int{{0, 140, 0, 0}, {0, 0, 0, 140}, {0, 0, 0, 0}, {0, 0, 0, 0}}, 0, 1, []int{0, 2, 1}},
		{[][]int{{0, 140, 0, 0}, {0, 0, 0, 140}, {0, 0, 0, 0}, {0, 0, 0, 0}}, 1, 3, []int{1, 0, 3}},
	} {
		if got := impl.ChainOf(c.a, c.i, c.k); !slices.Equal(got, c.want) {
			t.Errorf("ChainOf(%v, %d, %d) = %v, not %v", c.a, c.i, c.k, got, c.want)
		}
	}
}

func TestHubCostKnown(t *testing.T) {
	a := [][]int{{0, 5, 9}, {5, 0, 2}, {1, 7, 0}}
	for hub, want := range [][][]int{
		{{0, 5, 9}, {5, 0, 14}, {1, 6, 0}},
		{{0, 5, 7}, {5, 0, 2}, {12, 7, 0}},
		{{0, 16, 9}, {3, 0, 2}, {1, 7, 0}},
	} {
		if got := impl.HubCost(a, hub); !sameRates(got, want) {
			t.Errorf("HubCost(%v, %d) = %v, not %v", a, hub, got, want)
		}
	}
	// Two rates over a hub may be together more than any rate.
	if got := impl.HubCost(evenRates(3, 140), 1); !sameRates(got, [][]int{{0, 140, 280}, {140, 0, 140}, {280, 140, 0}}) {
		t.Errorf("HubCost of rates of 140 = %v", got)
	}
}

// Promise 37.
func TestRatesMayBeTurned(t *testing.T) {
	for _, a := range manyRates() {
		if b := turned(a); !impl.ValidRates(b) || !sameRates(turned(b), a) {
			t.Fatalf("ValidRates(%v) is false", b)
		}
	}
	for n := 1; n <= 6; n++ {
		for _, rate := range []int{-1, 0, 140, 141} {
			a := evenRates(n, 0)
			a[0][n-1] = rate
			if got, want := impl.ValidRates(turned(a)), impl.ValidRates(a); got != want {
				t.Errorf("ValidRates(%v) is %t, but %t turned", a, want, got)
			}
		}
	}
}

// Promise 38.
func TestTheCheapestAreTheGreatestThatAreFair(t *testing.T) {
	fair, unfair := 0, 0
	for _, a := range manyRates() {
		got := impl.CheapestOf(a)
		if want := rightCheapest(a); !sameRates(got, want) {
			t.Fatalf("CheapestOf(%v) = %v, not %v", a, got, want)
		}
		if !impl.ValidRates(got) || !impl.IsFair(got) || !noDearer(got, a) {
			t.Fatalf("CheapestOf(%v) = %v are not fair, or more", a, got)
		}
		if own := impl.CheapestOf(got); !sameRates(own, got) {
			t.Fatalf("CheapestOf(%v) = %v are not their own, but %v", a, got, own)
		}
		isFair := impl.IsFair(a)
		if isFair != rightFair(a) || isFair != sameRates(got, a) {
			t.Fatalf("IsFair(%v) is %t, and CheapestOf them %v", a, isFair, got)
		}
		if len(a) >= 3 && isFair {
			fair++
		} else if len(a) >= 3 {
			unfair++
		}
	}
	if fair < 500 || unfair < 500 {
		t.Fatalf("of rates of three zones and more %d are fair, and %d are not", fair, unfair)
	}
}

// Promise 38: no fair rates that are at most the rates are more than the cheapest.
func TestNoFairRatesAreMoreThanTheCheapest(t *testing.T) {
	for _, lists := range [][][][]int{allRates(3, 0, 1, 2, 3), allRates(4, 0, 1)} {
		var fair [][][]int
		for _, a := range lists {
			if rightFair(a) {
				fair = append(fair, a)
			}
		}
		for _, a := range lists {
			got := impl.CheapestOf(a)
			for _, b := range fair {
				if noDearer(b, a) && !noDearer(b, got) {
					t.Fatalf("CheapestOf(%v) = %v, but %v are fair", a, got, b)
				}
			}
		}
	}
}

// Promise 39.
func TestFairRatesAreFairBothWays(t *testing.T) {
	for _, a := range manyRates() {
		b := turned(a)
		if impl.IsFair(a) != impl.IsFair(b) {
			t.Fatalf("IsFair(%v) is %t, but not turned", a, impl.IsFair(a))
		}
		if got, want := impl.CheapestOf(b), turned(impl.CheapestOf(a)); !sameRates(got, want) {
			t.Fatalf("CheapestOf(%v) = %v, but %v turned", b, got, want)
		}
	}
}

// Promise 40.
func TestChainsCostWhatTheyMust(t *testing.T) {
	zones := map[int]int{}
	for _, a := range manyRates() {
		cheapest := impl.CheapestOf(a)
		for i := range a {
			for k := range a {
				got := impl.ChainOf(a, i, k)
				if want := rightChain(a, i, k); !slices.Equal(got, want) {
					t.Fatalf("ChainOf(%v, %d, %d) = %v, not %v", a, i, k, got, want)
				}
				if sum := sumOf(a, got); got[0] != i || got[len(got)-1] != k || sum != cheapest[i][k] {
					t.Fatalf("ChainOf(%v, %d, %d) = %v costs %d, and CheapestOf has %d", a, i, k, got, sum, cheapest[i][k])
				}
				for place, zone := range got {
					if slices.Contains(got[:place], zone) {
						t.Fatalf("ChainOf(%v, %d, %d) = %v has a zone twice", a, i, k, got)
					}
				}
				zones[len(got)]++
			}
		}
	}
	for count := 1; count <= 5; count++ {
		if zones[count] < 100 {
			t.Errorf("chains of %d zones are seldom: %d", count, zones[count])
		}
	}
}

// Promise 41.
func TestHubsCostNoLess(t *testing.T) {
	for _, a := range manyRates() {
		cheapest, isFair := impl.CheapestOf(a), impl.IsFair(a)
		for hub := range a {
			got := impl.HubCost(a, hub)
			if want := rightHub(a, hub); !sameRates(got, want) {
				t.Fatalf("HubCost(%v, %d) = %v, not %v", a, hub, got, want)
			}
			if !noDearer(cheapest, got) {
				t.Fatalf("HubCost(%v, %d) = %v is less than %v", a, hub, got, cheapest)
			}
			if isFair && !noDearer(a, got) {
				t.Fatalf("HubCost(%v, %d) = %v is less than the rates", a, hub, got)
			}
		}
	}
}

// Promise 79.
func TestTheBestHubIsAChainOfTwo(t *testing.T) {
	more := 0
	for _, a := range manyRates() {
		cheapest := impl.CheapestOf(a)
		least := impl.HubCost(a, 0)
		for hub := range a {
			for i, row := range impl.HubCost(a, hub) {
				for k := range row {
					least[i][k] = min(least[i][k], row[k])
				}
			}
		}
		if !noDearer(cheapest, least) || len(a) <= 3 && !sameRates(cheapest, least) {
			t.Fatalf("HubCost(%v) over the best hubs is %v, and CheapestOf %v", a, least, cheapest)
		}
		if !sameRates(cheapest, least) {
			more++
		}
	}
	if more < 100 {
		t.Fatalf("one hub is seldom too few: %d times", more)
	}
}

// Promise 80.
func TestFairRatesNeedNoChains(t *testing.T) {
	for _, a := range manyRates() {
		for _, fair := range [][][]int{a, impl.CheapestOf(a)} {
			if !impl.IsFair(fair) {
				continue
			}
			for i := range fair {
				for k := range fair {
					if got := impl.ChainOf(fair, i, k); !slices.Equal(got, slices.Compact([]int{i, k})) {
						t.Fatalf("ChainOf(%v, %d, %d) = %v, but these are fair", fair, i, k, got)
					}
				}
			}
		}
	}
}

func TestRatesAreNotChangedNorKept(t *testing.T) {
	cells := []int{0, 5, 9, 5, 0, 2, 1, 7, 0, 44}
	whole := [][]int{cells[0:3], cells[3:6], cells[6:9], {8, 8, 8}}
	a := whole[:3]
	unchanged := func(what string) {
		t.Helper()
		if !slices.Equal(cells, []int{0, 5, 9, 5, 0, 2, 1, 7, 0, 44}) {
			t.Fatalf("%s: the rates became %v", what, cells)
		}
		for i := range a {
			if len(whole[i]) != 3 || &whole[i][0] != &cells[3*i] {
				t.Fatalf("%s: the row %d is another one", what, i)
			}
		}
		if !slices.Equal(whole[3], []int{8, 8, 8}) {
			t.Fatalf("%s: what is behind the rates became %v", what, whole[3])
		}
	}
	impl.ValidRates(a)
	impl.IsFair(a)
	unchanged("questions")
	for i := range 3 {
		for k := range 3 {
			want := rightChain(a, i, k)
			for range 2 {
				chain := impl.ChainOf(a, i, k)
				if !slices.Equal(chain, want) {
					t.Fatalf("ChainOf keeps what was done to its result: %v", chain)
				}
				spoil(chain)
				unchanged("ChainOf")
			}
		}
	}
	for what, ask := range map[string]func() [][]int{
		"CheapestOf": func() [][]int { return impl.CheapestOf(a) },
		"HubCost":    func() [][]int { return impl.HubCost(a, 1) },
	} {
		want := cloneRates(ask())
		for i := range 3 {
			rows := ask()
			if !sameRates(rows, want) {
				t.Fatalf("%s keeps what was done to its result: %v", what, rows)
			}
			spoil(rows[i])
			unchanged(what)
			rows[i] = slices.Clone(want[i])
			if !sameRates(rows, want) {
				t.Fatalf("%s: what was done to the row %d made the rows %v", what, i, rows)
			}
		}
	}
	// Fair rates are their own cheapest, and yet not the same memory.
	fair := [][]int{{0, 5, 7}, {3, 0, 2}, {1, 6, 0}}
	for _, row := range impl.CheapestOf(fair) {
		spoil(row)
	}
	if !sameRates(fair, [][]int{{0, 5, 7}, {3, 0, 2}, {1, 6, 0}}) {
		t.Fatalf("what was done to the cheapest rates made the rates %v", fair)
	}
}
