package tests

import (
	"slices"
	"testing"

	"loop.example/lettersthatarrive/impl"
)

// notRows has numbers that are not a row.
var notRows = [][]int{
	{1}, {-1}, {2}, {0, 0}, {1, 1}, {0, 2}, {1, 2}, {-1, 0}, {0, -1}, {0, 1, 1}, {1, 0, 1}, {0, 1, 3}, {3, 1, 2}, {0, 1, 2, -3}, {0, 1 << 62}, {-1 << 63, 0}, {2, 2, 2}, {0, 1, 2, 2},
	{0, 1, 2, 3, 4, 5, 6, 7, 8, 9}, {9, 8, 7, 6, 5, 4, 3, 2, 1, 0}, {0, 1, 2, 3, 4, 5, 6, 7, 9}, {0, 1, 2, 3, 4, 5, 6, 7, 8, 8}, {1, 2, 3, 4, 5, 6, 7, 8, 9},
}

// allRows returns all rows of n letters.
func allRows(n int) [][]int {
	if n == 0 {
		return [][]int{{}}
	}
	var list [][]int
	for _, row := range allRows(n - 1) {
		for place := range n {
			list = append(list, slices.Insert(slices.Clone(row), place, n-1))
		}
	}
	return list
}

// manyRows returns all rows of few letters, and rows of more letters that follow a rule.
func manyRows() [][]int {
	var list [][]int
	for n := range 7 {
		list = append(list, allRows(n)...)
	}
	next := 1
	for n := 7; n <= 9; n++ {
		list = append(list, inOrder(n), backwards(inOrder(n)))
		for range 200 {
			row := []int{}
			for letter := range n {
				next = (next*1103 + 12347) % 1000003
				row = slices.Insert(row, next/7%(letter+1), letter)
			}
			list = append(list, row)
		}
	}
	return list
}

// allBoxes returns all ways to give each one of n letters one of k boxes.
func allBoxes(n, k int) [][]int {
	list := [][]int{{}}
	for range n {
		var longer [][]int
		for _, boxes := range list {
			for box := range k {
				longer = append(longer, append(slices.Clone(boxes), box))
			}
		}
		list = longer
	}
	return list
}

func backwards(row []int) []int {
	other := slices.Clone(row)
	slices.Reverse(other)
	return other
}

// inOrder returns n letters in order.
func inOrder(n int) []int {
	row := []int{}
	for letter := range n {
		row = append(row, letter)
	}
	return row
}

// rightPass looks for the letters of each box in the whole row.
func rightPass(row, boxes []int, k int) []int {
	behind := []int{}
	for box := range k {
		for i, letter := range row {
			if boxes[i] == box {
				behind = append(behind, letter)
			}
		}
	}
	return behind
}

// rightRunOf goes along the row again and again, taking the letters in the order of their numbers: each time is a run.
func rightRunOf(row []int) (runOf map[int]int, runs int) {
	runOf = map[int]int{}
	for len(runOf) < len(row) {
		for _, letter := range row {
			if letter == len(runOf) {
				runOf[letter] = runs
			}
		}
		runs++
	}
	return runOf, runs
}

// rowName is a row as a key of a map.
func rowName(row []int) string {
	name := ""
	for _, letter := range row {
		name += string(rune('0' + letter))
	}
	return name
}

// rightFewest finds the fewest passes by k boxes of all rows of n letters: those of a row are one more than those of the best row behind one pass.
func rightFewest(n, k int) map[string]int {
	rows, boxes := allRows(n), allBoxes(n, k)
	fewest := map[string]int{rowName(inOrder(n)): 0}
	for passes := 1; len(fewest) < len(rows); passes++ {
		found := []string{}
		for _, row := range rows {
			if _, ok := fewest[rowName(row)]; ok {
				continue
			}
			if slices.ContainsFunc(boxes, func(b []int) bool { _, ok := fewest[rowName(rightPass(row, b, k))]; return ok }) {
				found = append(found, rowName(row))
			}
		}
		for _, name := range found {
			fewest[name] = passes
		}
	}
	return fewest
}

func TestLimitsOfSorting(t *testing.T) {
	if impl.MaxLetters != 9 || impl.MaxBoxes != 4 || impl.MaxTried != 4 {
		t.Error("a limit of chapter 2 is not that of the document")
	}
}

func TestValidRow(t *testing.T) {
	if !impl.ValidRow(nil) {
		t.Error("ValidRow without letters is false")
	}
	for _, row := range manyRows() {
		if !impl.ValidRow(row) {
			t.Errorf("ValidRow(%v) is false", row)
		}
	}
	for _, list := range notRows {
		if impl.ValidRow(list) {
			t.Errorf("ValidRow(%v) is true", list)
		}
	}
}

// Promise 8.
func TestRowsMayBeTurned(t *testing.T) {
	for _, row := range manyRows() {
		if !impl.ValidRow(backwards(row)) {
			t.Errorf("ValidRow(%v) is false", backwards(row))
		}
	}
}

func TestPassOfKnown(t *testing.T) {
	for _, c := range []struct {
		row, boxes []int
		k          int
		want       []int
	}{
		{nil, nil, 1, nil}, {nil, nil, 4, nil}, {[]int{0}, []int{0}, 1, []int{0}}, {[]int{0}, []int{3}, 4, []int{0}},
		{[]int{3, 1, 2, 0}, []int{1, 0, 1, 0}, 2, []int{1, 0, 3, 2}},
		{[]int{3, 1, 2, 0}, []int{0, 0, 0, 0}, 1, []int{3, 1, 2, 0}},
		{[]int{3, 1, 2, 0}, []int{3, 1, 2, 0}, 4, []int{0, 1, 2, 3}},
		{[]int{8, 7, 6, 5, 4, 3, 2, 1, 0}, []int{3, 2, 1, 0, 3, 2, 1, 0, 3}, 4, []int{5, 1, 6, 2, 7, 3, 8, 4, 0}},
		{[]int{0, 1, 2, 3, 4, 5, 6, 7, 8}, []int{2, 2, 2, 2, 2, 2, 2, 2, 2}, 3, []int{0, 1, 2, 3, 4, 5, 6, 7, 8}},
	} {
		if got := impl.PassOf(c.row, c.boxes, c.k); !slices.Equal(got, c.want) {
			t.Errorf("PassOf(%v, %v, %d) = %v, not %v", c.row, c.boxes, c.k, got, c.want)
		}
	}
	for _, c := range []struct {
		row, boxes []int
		k          int
	}{
		{nil, nil, 0}, {nil, nil, 5}, {nil, nil, -1}, {nil, []int{0}, 1}, {[]int{0}, nil, 1}, {[]int{0}, []int{0}, 0}, {[]int{0}, []int{0}, 5}, {[]int{0}, []int{0}, -1}, {[]int{0}, []int{0}, 1 << 62},
		{[]int{0}, []int{1}, 1}, {[]int{0}, []int{-1}, 1}, {[]int{0}, []int{4}, 4}, {[]int{0, 1}, []int{0, 2}, 2}, {[]int{0, 1}, []int{2, 0}, 2}, {[]int{0, 1}, []int{0, -1}, 4}, {[]int{1, 0}, []int{0}, 2}, {[]int{1, 0}, []int{0, 0, 0}, 2}, {[]int{1, 0}, []int{0, 1 << 62}, 2},
	} {
		if got := impl.PassOf(c.row, c.boxes, c.k); len(got) != 0 {
			t.Errorf("PassOf(%v, %v, %d) = %v, not nothing", c.row, c.boxes, c.k, got)
		}
	}
	for _, list := range notRows {
		if got := impl.PassOf(list, make([]int, len(list)), 2); len(got) != 0 {
			t.Errorf("PassOf(%v, .., 2) = %v, not nothing", list, got)
		}
	}
}

// checkPass checks promise 9 for one pass.
func checkPass(t *testing.T, row, boxes []int, k int) {
	t.Helper()
	want := rightPass(row, boxes, k)
	got := impl.PassOf(row, boxes, k)
	if !slices.Equal(got, want) {
		t.Fatalf("PassOf(%v, %v, %d) = %v, not %v", row, boxes, k, got, want)
	}
	if !impl.ValidRow(got) || len(got) != len(row) {
		t.Fatalf("PassOf(%v, %v, %d) = %v, not a row of as many letters", row, boxes, k, got)
	}
	if impl.RunsOf(got)*k < impl.RunsOf(row) {
		t.Fatalf("RunsOf(%v) = %d, and RunsOf(%v) = %d, behind a pass by %d boxes", row, impl.RunsOf(row), got, impl.RunsOf(got), k)
	}
}

// Promise 9.
func TestPassesKeepLetters(t *testing.T) {
	for k := 1; k <= 4; k++ {
		for n := range 6 {
			boxes := allBoxes(n, k)
			for _, row := range allRows(n) {
				for _, b := range boxes {
					checkPass(t, row, b, k)
				}
			}
		}
	}
	next := 1
	for i, row := range manyRows() {
		k := i%4 + 1
		boxes := []int{}
		for range row {
			next = (next*1103 + 12347) % 1000003
			boxes = append(boxes, next/7%k)
		}
		checkPass(t, row, boxes, k)
		if got := impl.PassOf(row, make([]int, len(row)), 1); !slices.Equal(got, row) {
			t.Fatalf("PassOf(%v, .., 1) = %v", row, got)
		}
	}
}

// Promise 69.
func TestPassesAreStable(t *testing.T) {
	for n := range 5 {
		for _, row := range allRows(n) {
			for k := max(n, 1); k <= 4; k++ {
				if got := impl.PassOf(row, row, k); !slices.Equal(got, inOrder(n)) {
					t.Errorf("PassOf(%v, %v, %d) = %v", row, row, k, got)
				}
			}
		}
	}
	for _, row := range manyRows() {
		for k := 1; k <= 4; k++ {
			for box := range k {
				if got := impl.PassOf(row, slices.Repeat([]int{box}, len(row)), k); !slices.Equal(got, row) {
					t.Fatalf("PassOf(%v) with all in the box %d of %d is %v", row, box, k, got)
				}
			}
		}
	}
}

func TestRunsOfKnown(t *testing.T) {
	for _, c := range []struct {
		row  []int
		want int
	}{
		{nil, 0}, {[]int{}, 0}, {[]int{0}, 1}, {[]int{0, 1}, 1}, {[]int{1, 0}, 2}, {[]int{2, 0, 3, 1}, 2}, {[]int{3, 2, 1, 0}, 4}, {[]int{1, 2, 0}, 2}, {[]int{2, 0, 1}, 2}, {[]int{0, 2, 1}, 2}, {[]int{4, 0, 1, 2, 3}, 2}, {[]int{8, 7, 6, 5, 4, 3, 2, 1, 0}, 9}, {[]int{1, 3, 5, 7, 0, 2, 4, 6, 8}, 5},
	} {
		if got := impl.RunsOf(c.row); got != c.want {
			t.Errorf("RunsOf(%v) = %d, not %d", c.row, got, c.want)
		}
	}
	for _, list := range notRows {
		if got := impl.RunsOf(list); got != -1 {
			t.Errorf("RunsOf(%v) = %d, not -1", list, got)
		}
	}
}

// Promise 10.
func TestRunsAreAtMostLetters(t *testing.T) {
	for n := 1; n <= 9; n++ {
		if got := impl.RunsOf(inOrder(n)); got != 1 {
			t.Errorf("RunsOf(%v) = %d, not 1", inOrder(n), got)
		}
	}
	for _, row := range manyRows() {
		got := impl.RunsOf(row)
		if _, want := rightRunOf(row); got != want || got > len(row) {
			t.Fatalf("RunsOf(%v) = %d, not %d", row, got, want)
		}
		if other := impl.RunsOf(backwards(row)); len(row) > 0 && got+other != len(row)+1 {
			t.Fatalf("RunsOf(%v) = %d, and the other way round %d", row, got, other)
		}
	}
}

func TestFewestPassesKnown(t *testing.T) {
	for _, c := range []struct {
		row     []int
		k, want int
	}{
		{nil, 2, 0}, {nil, 4, 0}, {[]int{0}, 2, 0}, {[]int{0, 1}, 3, 0}, {inOrder(9), 2, 0},
		{[]int{2, 0, 3, 1}, 2, 1}, {[]int{3, 2, 1, 0}, 2, 2}, {[]int{3, 2, 1, 0}, 3, 2}, {[]int{3, 2, 1, 0}, 4, 1}, {[]int{2, 1, 0}, 3, 1}, {[]int{2, 1, 0}, 2, 2},
		{backwards(inOrder(5)), 2, 3}, {backwards(inOrder(5)), 4, 2}, {backwards(inOrder(8)), 2, 3}, {backwards(inOrder(9)), 2, 4}, {backwards(inOrder(9)), 3, 2}, {backwards(inOrder(9)), 4, 2},
	} {
		if got := impl.FewestPasses(c.row, c.k); got != c.want {
			t.Errorf("FewestPasses(%v, %d) = %d, not %d", c.row, c.k, got, c.want)
		}
		if got := impl.PassesTried(c.row, c.k); len(c.row) <= 4 && got != c.want || len(c.row) > 4 && got != -1 {
			t.Errorf("PassesTried(%v, %d) = %d", c.row, c.k, got)
		}
	}
}

// notSorted has numbers of boxes by which nothing is sorted.
var notSorted = []int{1, 0, -1, 5, 6, 9, 1 << 62, -1 << 63}

func TestPassesOfOthers(t *testing.T) {
	check := func(list []int, k int) {
		if got := impl.FewestPasses(list, k); got != -1 {
			t.Errorf("FewestPasses(%v, %d) = %d, not -1", list, k, got)
		}
		if got := impl.SortPasses(list, k); len(got) != 0 {
			t.Errorf("SortPasses(%v, %d) = %v, not none", list, k, got)
		}
		if got := impl.PassesTried(list, k); got != -1 {
			t.Errorf("PassesTried(%v, %d) = %d, not -1", list, k, got)
		}
	}
	for _, list := range notRows {
		for k := 1; k <= 5; k++ {
			check(list, k)
		}
	}
	for _, row := range manyRows() {
		if len(row) <= 4 || len(row) == 9 {
			for _, k := range notSorted {
				check(row, k)
			}
		}
		for k := 2; k <= 4; k++ {
			if got := impl.PassesTried(row, k); len(row) > 4 && got != -1 {
				t.Fatalf("PassesTried(%v, %d) = %d, not -1", row, k, got)
			}
		}
	}
}

// Promises 11 and 13.
func TestFewerPassesAreNotEnough(t *testing.T) {
	for k := 2; k <= 4; k++ {
		for n := range 6 {
			fewest := rightFewest(n, k)
			for _, row := range allRows(n) {
				want := fewest[rowName(row)]
				if got := impl.FewestPasses(row, k); got != want {
					t.Fatalf("FewestPasses(%v, %d) = %d, not %d", row, k, got, want)
				}
				if got := impl.PassesTried(row, k); n <= 4 && got != want {
					t.Fatalf("PassesTried(%v, %d) = %d, not %d", row, k, got, want)
				}
			}
		}
	}
	for _, row := range manyRows() {
		for k := 2; k < 4; k++ {
			if got, more := impl.FewestPasses(row, k), impl.FewestPasses(row, k+1); more > got {
				t.Fatalf("FewestPasses(%v) = %d by %d boxes and %d by one more", row, got, k, more)
			}
		}
	}
}

func TestSortPassesKnown(t *testing.T) {
	for _, c := range []struct {
		row  []int
		k    int
		want [][]int
	}{
		{nil, 2, [][]int{{}}}, {[]int{}, 4, [][]int{{}}}, {[]int{0}, 2, [][]int{{0}}}, {[]int{0, 1, 2}, 3, [][]int{{0, 1, 2}}},
		{[]int{3, 2, 1, 0}, 2, [][]int{{3, 2, 1, 0}, {2, 0, 3, 1}, {0, 1, 2, 3}}},
		{[]int{3, 2, 1, 0}, 3, [][]int{{3, 2, 1, 0}, {3, 0, 1, 2}, {0, 1, 2, 3}}},
		{[]int{3, 2, 1, 0}, 4, [][]int{{3, 2, 1, 0}, {0, 1, 2, 3}}},
		{[]int{2, 0, 3, 1}, 2, [][]int{{2, 0, 3, 1}, {0, 1, 2, 3}}},
		{[]int{2, 3, 1, 4, 0}, 2, [][]int{{2, 3, 1, 4, 0}, {2, 3, 4, 0, 1}, {0, 1, 2, 3, 4}}},
	} {
		if got := impl.SortPasses(c.row, c.k); !slices.EqualFunc(got, c.want, slices.Equal) {
			t.Errorf("SortPasses(%v, %d) = %v, not %v", c.row, c.k, got, c.want)
		}
	}
}

// rightSort sends the letters by one digit of their run after the other.
func rightSort(row []int, k int) [][]int {
	runOf, runs := rightRunOf(row)
	list := [][]int{row}
	for power := 1; power < runs; power *= k {
		boxes := []int{}
		for _, letter := range row {
			boxes = append(boxes, runOf[letter]/power%k)
		}
		row = rightPass(row, boxes, k)
		list = append(list, row)
	}
	return list
}

// Promise 12.
func TestPassesSort(t *testing.T) {
	for _, row := range manyRows() {
		for k := 2; k <= 4; k++ {
			got := impl.SortPasses(row, k)
			if !slices.EqualFunc(got, rightSort(row, k), slices.Equal) {
				t.Fatalf("SortPasses(%v, %d) = %v", row, k, got)
			}
			if len(got) != impl.FewestPasses(row, k)+1 {
				t.Fatalf("SortPasses(%v, %d) = %v, but FewestPasses = %d", row, k, got, impl.FewestPasses(row, k))
			}
			if last := got[len(got)-1]; !slices.Equal(last, inOrder(len(row))) {
				t.Fatalf("SortPasses(%v, %d) ends with %v", row, k, last)
			}
		}
	}
}

// spoil writes over a slice, and over its spare capacity.
func spoil(list []int) {
	list = list[:cap(list)]
	for i := range list {
		list[i] = -7
	}
}

func TestRowsAreNotChangedNorKept(t *testing.T) {
	whole := []int{3, 1, 2, 0, 50, 51}
	boxes := []int{1, 0, 1, 0, 60}
	unchanged := func(what string) {
		t.Helper()
		if !slices.Equal(whole, []int{3, 1, 2, 0, 50, 51}) || !slices.Equal(boxes, []int{1, 0, 1, 0, 60}) {
			t.Fatalf("%s: the row became %v, and the boxes %v", what, whole, boxes)
		}
	}
	row := whole[:4]
	impl.ValidRow(row)
	impl.RunsOf(row)
	impl.FewestPasses(row, 2)
	impl.PassesTried(row, 2)
	unchanged("questions")
	for k := 2; k <= 4; k++ {
		spoil(impl.PassOf(row, boxes[:4], k))
		unchanged("PassOf")
		for i := range impl.SortPasses(row, k) {
			rows := impl.SortPasses(row, k)
			spoil(rows[i])
			unchanged("SortPasses")
			rows[i] = rightSort(row, k)[i]
			if !slices.EqualFunc(rows, rightSort(row, k), slices.Equal) {
				t.Fatalf("what was done to the row %d made the rows %v", i, rows)
			}
		}
	}
	same := impl.PassOf(row, make([]int, 4), 1)
	spoil(same)
	unchanged("PassOf one box")
	for _, few := range [][]int{{}, {0}, {0, 1, 2}} {
		before := slices.Clone(few)
		spoil(impl.SortPasses(few, 2)[0])
		if !slices.Equal(few, before) {
			t.Fatalf("what was done to the result made the row %v", few)
		}
	}
}
