package tests

import (
	"slices"
	"testing"

	"loop.example/lettersthatarrive/impl"
)

// notStacks has what are not stacks, whatever the rows: each has a number that is none.
var notStacks = []int{-1, 9, 10, -9, 1 << 62, 1<<63 - 1, -1 << 63}

// eachRow calls be with each row of n letters.
func eachRow(n int, be func(row []int)) {
	row := inOrder(n)
	var place func(i int)
	place = func(i int) {
		if i == n {
			be(slices.Clone(row))
			return
		}
		for k := i; k < n; k++ {
			row[i], row[k] = row[k], row[i]
			place(i + 1)
			row[i], row[k] = row[k], row[i]
		}
	}
	place(0)
}

// rightStacks looks at all stacks for each parcel.
func rightStacks(row []int) (stacks []int, used int) {
	var lie [][]int
	for _, parcel := range row {
		chosen, earliest := len(lie), len(row)
		for s, parcels := range lie {
			if last := parcels[len(parcels)-1]; last > parcel && last < earliest {
				chosen, earliest = s, last
			}
		}
		if chosen == len(lie) {
			lie = append(lie, nil)
		}
		lie[chosen] = append(lie[chosen], parcel)
		stacks = append(stacks, chosen)
	}
	return stacks, len(lie)
}

// rightRising goes all rising rows, and keeps a row that is longer, or that is as long and has the lesser number at the first place where they differ.
func rightRising(row []int) []int {
	var best, rising []int
	var goOn func(from int)
	goOn = func(from int) {
		if len(rising) > len(best) || len(rising) == len(best) && slices.Compare(rising, best) < 0 {
			best = slices.Clone(rising)
		}
		for i := from; i < len(row); i++ {
			if len(rising) == 0 || row[i] > rising[len(rising)-1] {
				rising = append(rising, row[i])
				goOn(i + 1)
				rising = rising[:len(rising)-1]
			}
		}
	}
	goOn(0)
	return best
}

// rightUnload puts all parcels to their stacks, and then brings one after the other.
func rightUnload(row, stacks []int) bool {
	lie := map[int][]int{}
	for i, parcel := range row {
		lie[stacks[i]] = append(lie[stacks[i]], parcel)
	}
	for next := range len(row) {
		brought := false
		for s, parcels := range lie {
			if top := len(parcels) - 1; top >= 0 && parcels[top] == next {
				lie[s] = parcels[:top]
				brought = true
			}
		}
		if !brought {
			return false
		}
	}
	return true
}

// rightOneStack takes the parts ahead of the greatest letter and behind it by themselves: it lies below all others, and goes last.
func rightOneStack(row []int) []int {
	if len(row) == 0 {
		return nil
	}
	place := slices.Index(row, slices.Max(row))
	return append(append(rightOneStack(row[:place]), rightOneStack(row[place+1:])...), row[place])
}

// hasBadThree reports whether three letters stand so that the last one is the least, and the one in the middle the greatest.
func hasBadThree(row []int) bool {
	for c := range row {
		for b := range c {
			for a := range b {
				if row[c] < row[a] && row[a] < row[b] {
					return true
				}
			}
		}
	}
	return false
}

// standsIn reports whether all letters of one row are in another one, in the same order.
func standsIn(letters, row []int) bool {
	found := 0
	for _, letter := range row {
		if found < len(letters) && letters[found] == letter {
			found++
		}
	}
	return found == len(letters)
}

// differentIn returns how many different numbers there are.
func differentIn(numbers []int) int {
	return len(slices.Compact(slices.Sorted(slices.Values(numbers))))
}

// checkFresh asks for numbers again and again, writes over what comes, and fails if this is seen in another result.
func checkFresh(t *testing.T, what string, ask func() []int, want []int) {
	t.Helper()
	first := ask()
	for range 2 {
		got := ask()
		if !slices.Equal(got, want) {
			t.Fatalf("%s keeps what was done to its result: %v", what, got)
		}
		spoil(got)
	}
	if !slices.Equal(first, want) {
		t.Fatalf("%s: what was done to another result made the first one %v", what, first)
	}
}

func TestLimitOfVans(t *testing.T) {
	if impl.MaxLetters != 9 {
		t.Error("the limit of chapter 8 is not that of the document")
	}
}

func TestVansOfOthers(t *testing.T) {
	for _, list := range notRows {
		if got := impl.StacksOf(list); len(got) != 0 {
			t.Errorf("StacksOf(%v) = %v, not nothing", list, got)
		}
		if got := impl.RisingOf(list); got != -1 {
			t.Errorf("RisingOf(%v) = %d, not -1", list, got)
		}
		if got := impl.RisingRow(list); len(got) != 0 {
			t.Errorf("RisingRow(%v) = %v, not nothing", list, got)
		}
		if got := impl.OneStack(list); len(got) != 0 {
			t.Errorf("OneStack(%v) = %v, not nothing", list, got)
		}
		for _, stacks := range [][]int{nil, make([]int, len(list)), inOrder(len(list)), backwards(inOrder(len(list)))} {
			if impl.CanUnload(list, stacks) {
				t.Errorf("CanUnload(%v, %v) is true", list, stacks)
			}
		}
	}
}

func TestNoParcels(t *testing.T) {
	for _, row := range [][]int{nil, {}} {
		if got := impl.StacksOf(row); len(got) != 0 {
			t.Errorf("StacksOf no parcels = %v", got)
		}
		if got := impl.RisingOf(row); got != 0 {
			t.Errorf("RisingOf no parcels = %d", got)
		}
		if got := impl.RisingRow(row); len(got) != 0 {
			t.Errorf("RisingRow of no parcels = %v", got)
		}
		if got := impl.OneStack(row); len(got) != 0 {
			t.Errorf("OneStack of no letters = %v", got)
		}
		if !impl.CanUnload(row, nil) || !impl.CanUnload(row, []int{}) {
			t.Error("CanUnload no parcels is false")
		}
		for _, stacks := range [][]int{{0}, {8}, {-1}, {9}, {0, 0}} {
			if impl.CanUnload(row, stacks) {
				t.Errorf("CanUnload no parcels from %v is true", stacks)
			}
		}
	}
}

func TestRowsThatRise(t *testing.T) {
	for n := 1; n <= 9; n++ {
		row := inOrder(n)
		if got := impl.StacksOf(row); !slices.Equal(got, row) {
			t.Errorf("StacksOf(%v) = %v", row, got)
		}
		if got := impl.RisingOf(row); got != n {
			t.Errorf("RisingOf(%v) = %d", row, got)
		}
		if got := impl.RisingRow(row); !slices.Equal(got, row) {
			t.Errorf("RisingRow(%v) = %v", row, got)
		}
		if got := impl.OneStack(row); !slices.Equal(got, row) {
			t.Errorf("OneStack(%v) = %v", row, got)
		}
		// Each parcel must have a stack of its own.
		for one := range n {
			for other := range n {
				stacks := inOrder(n)
				stacks[one] = stacks[other]
				if got := impl.CanUnload(row, stacks); got != (one == other) {
					t.Errorf("CanUnload(%v, %v) is %t", row, stacks, got)
				}
			}
		}
	}
}

func TestRowsThatFall(t *testing.T) {
	for n := 1; n <= 9; n++ {
		row := backwards(inOrder(n))
		if got := impl.StacksOf(row); !slices.Equal(got, make([]int, n)) {
			t.Errorf("StacksOf(%v) = %v", row, got)
		}
		if got := impl.RisingOf(row); got != 1 {
			t.Errorf("RisingOf(%v) = %d", row, got)
		}
		if got := impl.RisingRow(row); !slices.Equal(got, []int{0}) {
			t.Errorf("RisingRow(%v) = %v", row, got)
		}
		if got := impl.OneStack(row); !slices.Equal(got, inOrder(n)) {
			t.Errorf("OneStack(%v) = %v", row, got)
		}
		// Parcels may be on any stacks.
		for s := range 9 {
			if stacks := slices.Repeat([]int{s}, n); !impl.CanUnload(row, stacks) {
				t.Errorf("CanUnload(%v, %v) is false", row, stacks)
			}
		}
		if !impl.CanUnload(row, row) || !impl.CanUnload(row, inOrder(n)) {
			t.Errorf("CanUnload(%v) from a stack for each is false", row)
		}
	}
}

func TestStacksOfKnown(t *testing.T) {
	for _, c := range []struct{ row, want []int }{
		{[]int{0}, []int{0}}, {[]int{2, 0, 3, 1}, []int{0, 0, 1, 1}}, {[]int{1, 2, 0}, []int{0, 1, 0}}, {[]int{1, 0, 2}, []int{0, 0, 1}},
		// The parcel 1 may lie on 3 and on 4, and 3 is brought first.
		{[]int{3, 4, 1, 2, 0}, []int{0, 1, 0, 1, 0}}, {[]int{2, 4, 0, 3, 1}, []int{0, 1, 0, 1, 1}},
		{[]int{4, 8, 3, 7, 2, 6, 1, 5, 0}, []int{0, 1, 0, 1, 0, 1, 0, 1, 0}}, {[]int{6, 7, 8, 3, 4, 5, 0, 1, 2}, []int{0, 1, 2, 0, 1, 2, 0, 1, 2}}, {[]int{8, 0, 1, 2, 3, 4, 5, 6, 7}, []int{0, 0, 1, 2, 3, 4, 5, 6, 7}},
	} {
		if got := impl.StacksOf(c.row); !slices.Equal(got, c.want) {
			t.Errorf("StacksOf(%v) = %v, not %v", c.row, got, c.want)
		}
	}
}

func TestRisingRowKnown(t *testing.T) {
	for _, c := range []struct{ row, want []int }{
		{[]int{0}, []int{0}}, {[]int{2, 0, 3, 1}, []int{0, 1}}, {[]int{1, 2, 0, 3}, []int{1, 2, 3}}, {[]int{2, 3, 0, 1}, []int{0, 1}}, {[]int{0, 2, 1}, []int{0, 1}},
		// Of several rows from 0 on that with the lesser number behind it, though it comes later, if it is no shorter.
		{[]int{0, 3, 4, 1, 2, 5}, []int{0, 1, 2, 5}}, {[]int{0, 3, 5, 1, 4, 2}, []int{0, 1, 2}}, {[]int{0, 3, 4, 1, 5, 2}, []int{0, 3, 4, 5}},
		// The longest one, though it has greater numbers.
		{[]int{5, 6, 7, 8, 0, 1, 2, 3, 4}, []int{0, 1, 2, 3, 4}}, {[]int{4, 5, 6, 7, 8, 0, 1, 2, 3}, []int{4, 5, 6, 7, 8}},
		// A row that ends with a lesser number may begin with a greater one.
		{[]int{3, 1, 4, 2, 0}, []int{1, 2}}, {[]int{1, 5, 2, 3, 4, 0}, []int{1, 2, 3, 4}}, {[]int{2, 3, 0, 4, 1}, []int{2, 3, 4}}, {[]int{1, 2, 0, 4, 3}, []int{1, 2, 3}},
	} {
		if got := impl.RisingRow(c.row); !slices.Equal(got, c.want) {
			t.Errorf("RisingRow(%v) = %v, not %v", c.row, got, c.want)
		}
		if got := impl.RisingOf(c.row); got != len(c.want) {
			t.Errorf("RisingOf(%v) = %d, not %d", c.row, got, len(c.want))
		}
	}
}

func TestOneStackKnown(t *testing.T) {
	for _, c := range []struct{ row, want []int }{
		{[]int{0}, []int{0}}, {[]int{1, 0}, []int{0, 1}}, {[]int{2, 0, 3, 1}, []int{0, 2, 1, 3}}, {[]int{1, 2, 0}, []int{1, 0, 2}}, {[]int{2, 0, 1}, []int{0, 1, 2}}, {[]int{0, 2, 1}, []int{0, 1, 2}},
		{[]int{1, 2, 3, 4, 0}, []int{1, 2, 3, 0, 4}}, {[]int{3, 4, 0, 2, 1}, []int{3, 0, 1, 2, 4}}, {[]int{1, 8, 0, 7, 2, 6, 3, 5, 4}, []int{1, 0, 2, 3, 4, 5, 6, 7, 8}},
	} {
		if got := impl.OneStack(c.row); !slices.Equal(got, c.want) {
			t.Errorf("OneStack(%v) = %v, not %v", c.row, got, c.want)
		}
	}
}

func TestCanUnloadKnown(t *testing.T) {
	for _, c := range []struct {
		row, stacks []int
		want        bool
	}{
		{[]int{0}, []int{0}, true}, {[]int{0}, []int{8}, true}, {[]int{1, 0}, []int{3, 3}, true}, {[]int{0, 1}, []int{3, 3}, false}, {[]int{0, 1}, []int{3, 4}, true},
		{[]int{2, 0, 3, 1}, []int{0, 0, 1, 1}, true}, {[]int{2, 0, 3, 1}, []int{1, 1, 0, 0}, true}, {[]int{2, 0, 3, 1}, []int{0, 1, 0, 1}, false}, {[]int{2, 0, 3, 1}, []int{0, 1, 2, 0}, true}, {[]int{2, 0, 3, 1}, []int{0, 1, 1, 0}, false}, {[]int{2, 0, 3, 1}, []int{8, 7, 6, 5}, true},
		// The first and the last parcel alone are in the wrong order.
		{[]int{0, 3, 2, 1}, []int{0, 1, 1, 0}, false}, {[]int{1, 3, 2, 0}, []int{0, 1, 1, 0}, true},
		{[]int{8, 7, 6, 5, 4, 3, 2, 0, 1}, []int{0, 0, 0, 0, 0, 0, 0, 0, 0}, false}, {[]int{8, 7, 6, 5, 4, 3, 2, 0, 1}, []int{0, 0, 0, 0, 0, 0, 0, 0, 8}, true}, {[]int{7, 8, 6, 5, 4, 3, 2, 1, 0}, []int{8, 8, 8, 8, 8, 8, 8, 8, 8}, false},
	} {
		if got := impl.CanUnload(c.row, c.stacks); got != c.want {
			t.Errorf("CanUnload(%v, %v) is %t", c.row, c.stacks, got)
		}
	}
}

func TestCanUnloadOtherStacks(t *testing.T) {
	for n := range 10 {
		row := backwards(inOrder(n))
		for length := range 12 {
			if got := impl.CanUnload(row, make([]int, length)); got != (length == n) {
				t.Errorf("CanUnload(%v) from %d stacks 0 is %t", row, length, got)
			}
		}
		if n > 0 && impl.CanUnload(row, nil) {
			t.Errorf("CanUnload(%v, nil) is true", row)
		}
		for place := range n {
			for s := range 9 {
				stacks := make([]int, n)
				stacks[place] = s
				if !impl.CanUnload(row, stacks) {
					t.Errorf("CanUnload(%v, %v) is false", row, stacks)
				}
			}
			for _, other := range notStacks {
				stacks := make([]int, n)
				stacks[place] = other
				if impl.CanUnload(row, stacks) {
					t.Errorf("CanUnload(%v, %v) is true", row, stacks)
				}
			}
		}
	}
}

// Promise 42, all but its end: all rows that there may be.
func TestAsFewStacksAsTheLongestRisingRow(t *testing.T) {
	for n := range 10 {
		eachRow(n, func(row []int) {
			got := impl.StacksOf(row)
			want, used := rightStacks(row)
			if !slices.Equal(got, want) {
				t.Fatalf("StacksOf(%v) = %v, not %v", row, got, want)
			}
			if rising := impl.RisingOf(row); rising != used || rising != differentIn(got) {
				t.Fatalf("StacksOf(%v) = %v, but RisingOf it is %d", row, got, rising)
			}
			if !impl.CanUnload(row, got) {
				t.Fatalf("CanUnload(%v, %v) is false", row, got)
			}
		})
	}
}

// Promises 42, its end, and 45: fewer stacks are not enough.
func TestFewerStacksAreNotEnough(t *testing.T) {
	check := func(row []int, all [][]int, k int) {
		rising, can := impl.RisingOf(row), false
		for _, stacks := range all {
			got := impl.CanUnload(row, stacks)
			if got != rightUnload(row, stacks) {
				t.Fatalf("CanUnload(%v, %v) is %t", row, stacks, got)
			}
			if got && differentIn(stacks) < rising {
				t.Fatalf("CanUnload(%v, %v) is true, but RisingOf it is %d", row, stacks, rising)
			}
			can = can || got
		}
		if can != (k >= rising) {
			t.Fatalf("CanUnload(%v) from %d stacks is %t, but RisingOf it is %d", row, k, can, rising)
		}
	}
	for n := 1; n <= 5; n++ {
		for k := 1; k <= n; k++ {
			all := allBoxes(n, k)
			for _, row := range allRows(n) {
				check(row, all, k)
			}
		}
	}
	for k := 1; k <= 2; k++ {
		all := allBoxes(6, k)
		for _, row := range allRows(6) {
			check(row, all, k)
		}
	}
	// All numbers that a stack may have, for few parcels.
	for n := 1; n <= 3; n++ {
		all := allBoxes(n, 9)
		for _, row := range allRows(n) {
			check(row, all, 9)
		}
	}
}

// Promises 42 and 45: of the stacks of StacksOf none can be spared by putting it to another one, and for more parcels stacks that follow a rule.
func TestStacksOfMoreParcels(t *testing.T) {
	next := 1
	can, cannot := 0, 0
	for _, row := range manyRows() {
		stacks := impl.StacksOf(row)
		for one := range impl.RisingOf(row) {
			for other := range one {
				fewer := slices.Clone(stacks)
				for i := range fewer {
					if fewer[i] == one {
						fewer[i] = other
					}
				}
				if impl.CanUnload(row, fewer) {
					t.Fatalf("CanUnload(%v, %v) is true, but StacksOf it is %v", row, fewer, stacks)
				}
			}
		}
		for k := 2; k <= 9; k++ {
			drawn := []int{}
			for range row {
				next = (next*1103 + 12347) % 1000003
				drawn = append(drawn, 9-k+next/7%k)
			}
			got := impl.CanUnload(row, drawn)
			if got != rightUnload(row, drawn) {
				t.Fatalf("CanUnload(%v, %v) is %t", row, drawn, got)
			}
			if got && differentIn(drawn) < impl.RisingOf(row) {
				t.Fatalf("CanUnload(%v, %v) is true, but RisingOf it is %d", row, drawn, impl.RisingOf(row))
			}
			if len(row) >= 6 && got {
				can++
			} else if len(row) >= 6 {
				cannot++
			}
		}
	}
	if can < 500 || cannot < 500 {
		t.Fatalf("of stacks for six parcels and more %d can be unloaded, and %d cannot", can, cannot)
	}
}

// Promise 45: a stack for each parcel is enough.
func TestAStackForEachParcelIsEnough(t *testing.T) {
	for _, row := range manyRows() {
		n := len(row)
		for first := range 10 - n {
			for _, stacks := range [][]int{inOrder(9)[first : first+n], backwards(inOrder(9))[first : first+n], row} {
				if !impl.CanUnload(row, stacks) {
					t.Fatalf("CanUnload(%v, %v) is false", row, stacks)
				}
			}
		}
	}
}

// Promises 43 and 70.
func TestRisingAndFallingRows(t *testing.T) {
	for n := range 10 {
		eachRow(n, func(row []int) {
			rising, falling := impl.RisingOf(row), impl.RisingOf(backwards(row))
			if rising*falling < n {
				t.Fatalf("RisingOf(%v) = %d, and the other way round %d: too few", row, rising, falling)
			}
			if rising+falling > n+1 {
				t.Fatalf("RisingOf(%v) = %d, and the other way round %d: too many", row, rising, falling)
			}
		})
	}
}

// Promise 44: all rows that there may be.
func TestTheFirstLongestRowRises(t *testing.T) {
	for n := range 10 {
		eachRow(n, func(row []int) {
			got := impl.RisingRow(row)
			if want := rightRising(row); !slices.Equal(got, want) {
				t.Fatalf("RisingRow(%v) = %v, not %v", row, got, want)
			}
			if rising := impl.RisingOf(row); rising != len(got) {
				t.Fatalf("RisingRow(%v) = %v, but RisingOf it is %d", row, got, rising)
			}
			if !slices.IsSorted(got) || !standsIn(got, row) {
				t.Fatalf("RisingRow(%v) = %v does not rise, or is not in it", row, got)
			}
		})
	}
}

// Promise 46: all rows that there may be.
func TestOneStackSortsWhatHasNoBadThree(t *testing.T) {
	for n := range 10 {
		sorted := 0
		eachRow(n, func(row []int) {
			got := impl.OneStack(row)
			if want := rightOneStack(row); !slices.Equal(got, want) {
				t.Fatalf("OneStack(%v) = %v, not %v", row, got, want)
			}
			if !impl.ValidRow(got) || len(got) != n || n > 0 && got[n-1] != n-1 {
				t.Fatalf("OneStack(%v) = %v is no row of as many letters, or does not end with the greatest one", row, got)
			}
			if slices.IsSorted(got) == hasBadThree(row) {
				t.Fatalf("OneStack(%v) = %v, and it is %t that there are bad three", row, got, hasBadThree(row))
			}
			if slices.IsSorted(got) {
				sorted++
			}
		})
		// So many rows have no bad three.
		if want := []int{1, 1, 2, 5, 14, 42, 132, 429, 1430, 4862}[n]; sorted != want {
			t.Errorf("one stack sorts %d rows of %d letters, not %d", sorted, n, want)
		}
	}
}

// Promise 71.
func TestWhatIsSortedIsOneRun(t *testing.T) {
	for n := 1; n <= 9; n++ {
		row := inOrder(n)
		if impl.RunsOf(row) != 1 || impl.RisingOf(row) != n || !slices.Equal(impl.OneStack(row), row) {
			t.Errorf("%v has %d runs, RisingOf %d, and OneStack %v", row, impl.RunsOf(row), impl.RisingOf(row), impl.OneStack(row))
		}
	}
	// And no other row is so.
	for n := range 8 {
		eachRow(n, func(row []int) {
			if isSorted := slices.IsSorted(row); n > 0 && (impl.RunsOf(row) == 1) != isSorted || (impl.RisingOf(row) == n) != isSorted || slices.Equal(impl.OneStack(row), row) != isSorted {
				t.Fatalf("%v has %d runs, RisingOf %d, and OneStack %v", row, impl.RunsOf(row), impl.RisingOf(row), impl.OneStack(row))
			}
		})
	}
}

// Promise 72: all rows that there may be.
func TestStacksSortInTheEnd(t *testing.T) {
	for n := range 10 {
		most := 0
		eachRow(n, func(row []int) {
			behind, needed := row, 0
			for times := 1; times < n; times++ {
				if !slices.IsSorted(behind) {
					needed = times
				}
				behind = impl.OneStack(behind)
			}
			if !slices.Equal(behind, inOrder(n)) {
				t.Fatalf("OneStack of %v again and again is %v", row, behind)
			}
			most = max(most, needed)
		})
		if n > 0 && most != n-1 {
			t.Errorf("OneStack of rows of %d letters is needed %d times at most", n, most)
		}
	}
}

func TestParcelsAreNotChangedNorKept(t *testing.T) {
	whole := []int{2, 0, 3, 1, 50, 51}
	put := []int{0, 0, 1, 1, 60}
	row, stacks := whole[:4], put[:4]
	unchanged := func(what string) {
		t.Helper()
		if !slices.Equal(whole, []int{2, 0, 3, 1, 50, 51}) || !slices.Equal(put, []int{0, 0, 1, 1, 60}) {
			t.Fatalf("%s: the row became %v, and the stacks %v", what, whole, put)
		}
	}
	impl.RisingOf(row)
	unchanged("RisingOf")
	if !impl.CanUnload(row, stacks) || !impl.CanUnload(row, stacks) {
		t.Fatal("CanUnload twice is false")
	}
	unchanged("CanUnload")
	for _, c := range []struct {
		what string
		ask  func([]int) []int
		want []int
	}{
		{"StacksOf", impl.StacksOf, []int{0, 0, 1, 1}}, {"RisingRow", impl.RisingRow, []int{0, 1}}, {"OneStack", impl.OneStack, []int{0, 2, 1, 3}},
	} {
		checkFresh(t, c.what, func() []int { return c.ask(row) }, c.want)
		unchanged(c.what)
	}
	// Rows in order are their own results, and yet not the same memory.
	for n := 1; n <= 9; n++ {
		same := inOrder(n)
		for _, ask := range []func([]int) []int{impl.StacksOf, impl.RisingRow, impl.OneStack} {
			spoil(ask(same))
			if !slices.Equal(same, inOrder(n)) {
				t.Fatalf("what was done to the result made the row %v", same)
			}
		}
	}
}
