package tests

import (
	"slices"
	"testing"

	"loop.example/lettersthatarrive/impl"
)

// someCosts has costs to cross, both limits among them.
var someCosts = []int{0, 1, 3, 19, 20}

// notCosts has what is no cost to cross.
var notCosts = []int{-1, -20, 21, 22, 1 << 62, -1 << 63}

// notHouses has rows that are not houses, each for one reason.
var notHouses = [][][]int{
	{nil}, {{}}, {{0}}, {{0, 0, 0}}, {{1, 1, 1, 1}}, {{3, 0}, {}}, {{3, 0}, {4}}, {{3, 0}, {4, 1, 0}, {5, 1}},
	{{-1, 0}}, {{21, 0}}, {{-1, 1}}, {{21, 1}}, {{1 << 62, 0}}, {{-1 << 63, 1}}, {{20, 1}, {21, 1}}, {{0, 0}, {-1, 0}, {0, 0}},
	{{0, -1}}, {{0, 2}}, {{20, 2}}, {{5, 1 << 62}}, {{5, -1 << 63}}, {{1, 0}, {1, 2}}, {{1, -1}, {1, 0}},
	{{0, 0}, {1, 0}, {2, 0}, {3, 0}, {4, 0}, {5, 0}, {6, 0}}, {{3, 1}, {3, 1}, {3, 1}, {3, 1}, {3, 1}, {3, 1}, {3, 1}}, {{0, 0}, {0, 0}, {0, 0}, {0, 0}, {0, 0}, {0, 0}, {0, 0}, {0, 0}},
}

// manyHouses returns all lists of up to three houses at few places, and lists of more houses that follow a rule, at few places or at all.
func manyHouses() [][][]int {
	lists := [][][]int{nil}
	longest := [][][]int{nil}
	for range 3 {
		var longer [][][]int
		for _, list := range longest {
			for _, place := range []int{0, 2, 5} {
				for side := range 2 {
					longer = append(longer, append(slices.Clone(list), []int{place, side}))
				}
			}
		}
		lists = append(lists, longer...)
		longest = longer
	}
	lists = append(lists, [][]int{{20, 0}}, [][]int{{20, 1}}, [][]int{{0, 0}, {20, 1}, {20, 0}, {0, 1}})
	next := 1
	draw := func(n int) int {
		next = (next*1103 + 12347) % 1000003
		return next / 7 % n
	}
	for n := 4; n <= 6; n++ {
		for _, places := range []int{1, 3, 21} {
			for range 25 {
				var list [][]int
				for range n {
					list = append(list, []int{draw(places), draw(2)})
				}
				lists = append(lists, list)
			}
		}
	}
	return lists
}

// rightWalk goes step by step.
func rightWalk(list [][]int, order []int, cross int) int {
	place, side, way := 0, 0, 0
	visit := func(to []int) {
		for ; place < to[0]; place++ {
			way++
		}
		for ; place > to[0]; place-- {
			way++
		}
		if side != to[1] {
			side = to[1]
			way += cross
		}
	}
	for _, i := range order {
		visit(list[i])
	}
	visit([]int{0, 0})
	return way
}

// rightBest walks all orders.
func rightBest(list [][]int, cross int) int {
	best := -1
	for _, order := range allRows(len(list)) {
		if way := rightWalk(list, order, cross); best < 0 || way < best {
			best = way
		}
	}
	return best
}

// housesAt returns the houses at a place, those on one of two sides.
func housesAt(list [][]int, place int, sides ...int) []int {
	var found []int
	for i, row := range list {
		if row[0] == place && slices.Contains(sides, row[1]) {
			found = append(found, i)
		}
	}
	return found
}

// rightOrder goes along all places of the street.
func rightOrder(list [][]int, kind string) []int {
	var order []int
	if kind == "turn" {
		for place := range 21 {
			order = append(order, housesAt(list, place, 0, 1)...)
		}
		return order
	}
	for place := range 21 {
		order = append(order, housesAt(list, place, 0)...)
	}
	for back := range 21 {
		order = append(order, housesAt(list, 20-back, 1)...)
	}
	return order
}

// farSide reports whether a house is on the side 1.
func farSide(list [][]int) bool {
	return slices.ContainsFunc(list, func(row []int) bool { return row[1] == 1 })
}

// greatestPlace returns the greatest place of houses, 0 without any.
func greatestPlace(list [][]int) int {
	greatest := 0
	for _, row := range list {
		greatest = max(greatest, row[0])
	}
	return greatest
}

func TestLimitsOfHouses(t *testing.T) {
	if impl.MaxStreet != 20 || impl.MaxHouses != 6 {
		t.Error("a limit of chapter 3 is not that of the document")
	}
}

func TestValidHouses(t *testing.T) {
	for _, list := range append(manyHouses(), [][]int{}, [][]int{{0, 0}}, [][]int{{20, 1}}, [][]int{{3, 0}, {3, 0}, {3, 0}, {3, 0}, {3, 0}, {3, 0}}) {
		if !impl.ValidHouses(list) {
			t.Errorf("ValidHouses(%v) is false", list)
		}
	}
	for _, list := range notHouses {
		if impl.ValidHouses(list) {
			t.Errorf("ValidHouses(%v) is true", list)
		}
	}
}

// Promise 14.
func TestHousesCanBeLeftOut(t *testing.T) {
	for _, list := range manyHouses() {
		for n := len(list); n >= 0; n-- {
			if !impl.ValidHouses(list[:n]) {
				t.Fatalf("ValidHouses(%v) is false", list[:n])
			}
		}
	}
}

func TestWalksKnown(t *testing.T) {
	three := [][]int{{2, 1}, {4, 0}, {6, 1}}
	for _, c := range []struct {
		list        [][]int
		order       []int
		cross, want int
	}{
		{nil, nil, 0, 0}, {nil, []int{}, 20, 0}, {[][]int{}, nil, 3, 0},
		{three, []int{0, 1, 2}, 3, 24}, {three, []int{1, 2, 0}, 3, 18}, {three, []int{2, 0, 1}, 3, 22}, {three, []int{2, 0, 1}, 0, 16},
		{[][]int{{0, 0}}, []int{0}, 20, 0}, {[][]int{{0, 1}}, []int{0}, 20, 40}, {[][]int{{0, 1}}, []int{0}, 0, 0}, {[][]int{{20, 0}}, []int{0}, 20, 40}, {[][]int{{20, 1}}, []int{0}, 20, 80},
		{[][]int{{3, 0}, {3, 0}}, []int{1, 0}, 5, 6}, {[][]int{{3, 0}, {3, 1}}, []int{1, 0}, 5, 16}, {[][]int{{3, 1}, {3, 1}}, []int{0, 1}, 5, 16},
		{[][]int{{0, 1}, {20, 0}, {0, 1}, {20, 0}, {0, 1}, {20, 0}}, []int{0, 1, 2, 3, 4, 5}, 20, 240},
	} {
		if got := impl.WalkOf(c.list, c.order, c.cross); got != c.want {
			t.Errorf("WalkOf(%v, %v, %d) = %d, not %d", c.list, c.order, c.cross, got, c.want)
		}
	}
	for _, c := range []struct {
		list        [][]int
		cross, want int
	}{
		{nil, 0, 0}, {nil, 20, 0}, {[][]int{}, 3, 0}, {three, 3, 18}, {three, 0, 12}, {three, 20, 52},
		{[][]int{{0, 0}}, 20, 0}, {[][]int{{0, 1}}, 20, 40}, {[][]int{{20, 0}}, 20, 40}, {[][]int{{20, 1}}, 20, 80}, {[][]int{{20, 1}}, 0, 40},
		{[][]int{{3, 0}, {3, 0}}, 5, 6}, {[][]int{{3, 1}, {3, 1}, {3, 0}}, 5, 16}, {[][]int{{1, 1}, {20, 0}}, 7, 54},
		{[][]int{{0, 0}, {0, 0}, {0, 0}, {0, 0}, {0, 0}, {0, 0}}, 9, 0}, {[][]int{{4, 1}, {4, 1}, {4, 1}, {4, 1}, {4, 1}, {4, 1}}, 9, 26},
	} {
		if got := impl.BestWalk(c.list, c.cross); got != c.want {
			t.Errorf("BestWalk(%v, %d) = %d, not %d", c.list, c.cross, got, c.want)
		}
		if got := impl.LeastWalk(c.list, c.cross); got != c.want {
			t.Errorf("LeastWalk(%v, %d) = %d, not %d", c.list, c.cross, got, c.want)
		}
	}
}

func TestWalksOfOthers(t *testing.T) {
	check := func(list [][]int, order []int, cross int) {
		if got := impl.WalkOf(list, order, cross); got != -1 {
			t.Errorf("WalkOf(%v, %v, %d) = %d, not -1", list, order, cross, got)
		}
		if got := impl.BestWalk(list, cross); got != -1 {
			t.Errorf("BestWalk(%v, %d) = %d, not -1", list, cross, got)
		}
		if got := impl.LeastWalk(list, cross); got != -1 {
			t.Errorf("LeastWalk(%v, %d) = %d, not -1", list, cross, got)
		}
	}
	for _, list := range notHouses {
		for _, cross := range slices.Concat(someCosts, notCosts) {
			check(list, inOrder(len(list)), cross)
		}
	}
	for _, cross := range notCosts {
		check(nil, nil, cross)
		check([][]int{{0, 0}}, []int{0}, cross)
		check([][]int{{2, 1}, {4, 0}, {6, 1}}, []int{1, 2, 0}, cross)
	}
}

func TestWalksOfOtherOrders(t *testing.T) {
	three := [][]int{{2, 1}, {4, 0}, {6, 1}}
	for _, order := range [][]int{
		nil, {}, {0}, {1, 2}, {0, 1}, {0, 1, 2, 0}, {0, 1, 2, 3}, {0, 0, 0}, {0, 1, 1}, {2, 1, 2}, {0, 1, 3}, {1, 2, 3}, {-1, 0, 1}, {0, 1, -1}, {0, 1, 1 << 62}, {-1 << 63, 1, 2}, {0, 1, 2, 3, 4, 5, 6, 7, 8, 9},
	} {
		if got := impl.WalkOf(three, order, 3); got != -1 {
			t.Errorf("WalkOf(%v, %v, 3) = %d, not -1", three, order, got)
		}
	}
	for _, order := range [][]int{{0}, {-1}, {0, 1}} {
		if got := impl.WalkOf(nil, order, 3); got != -1 {
			t.Errorf("WalkOf(nil, %v, 3) = %d, not -1", order, got)
		}
	}
}

// Promise 15.
func TestWalksMayBeWalkedBackwards(t *testing.T) {
	for _, list := range manyHouses() {
		orders := allRows(len(list))
		for _, cross := range someCosts {
			least := impl.LeastWalk(list, cross)
			for _, order := range orders {
				got := impl.WalkOf(list, order, cross)
				if want := rightWalk(list, order, cross); got != want {
					t.Fatalf("WalkOf(%v, %v, %d) = %d, not %d", list, order, cross, got, want)
				}
				if back := impl.WalkOf(list, backwards(order), cross); back != got {
					t.Fatalf("WalkOf(%v, %v, %d) = %d, and the other way round %d", list, order, cross, got, back)
				}
				if got < least {
					t.Fatalf("WalkOf(%v, %v, %d) = %d, but LeastWalk = %d", list, order, cross, got, least)
				}
			}
		}
	}
}

// Promise 16.
func TestTheLoopIsBest(t *testing.T) {
	for _, list := range manyHouses() {
		loop, turn := impl.OrderBy(list, "loop"), impl.OrderBy(list, "turn")
		for _, cross := range someCosts {
			best := impl.BestWalk(list, cross)
			if want := rightBest(list, cross); best != want {
				t.Fatalf("BestWalk(%v, %d) = %d, not %d", list, cross, best, want)
			}
			if least := impl.LeastWalk(list, cross); least != best {
				t.Fatalf("LeastWalk(%v, %d) = %d, but BestWalk = %d", list, cross, least, best)
			}
			if way := impl.WalkOf(list, loop, cross); way != best {
				t.Fatalf("WalkOf(%v, %v, %d) = %d by loop, but BestWalk = %d", list, loop, cross, way, best)
			}
			if way := impl.WalkOf(list, turn, cross); way < best {
				t.Fatalf("WalkOf(%v, %v, %d) = %d by turn, but BestWalk = %d", list, turn, cross, way, best)
			}
		}
	}
}

func TestOrderByKnown(t *testing.T) {
	for _, c := range []struct {
		list       [][]int
		loop, turn []int
	}{
		{nil, nil, nil}, {[][]int{}, nil, nil}, {[][]int{{5, 1}}, []int{0}, []int{0}},
		{[][]int{{2, 1}, {4, 0}, {6, 1}}, []int{1, 2, 0}, []int{0, 1, 2}},
		{[][]int{{3, 1}, {3, 0}, {3, 1}}, []int{1, 0, 2}, []int{0, 1, 2}},
		{[][]int{{9, 0}, {5, 0}, {1, 0}}, []int{2, 1, 0}, []int{2, 1, 0}},
		{[][]int{{1, 1}, {5, 1}, {9, 1}}, []int{2, 1, 0}, []int{0, 1, 2}},
		{[][]int{{20, 1}, {0, 1}, {20, 0}, {0, 0}, {20, 1}, {0, 1}}, []int{3, 2, 0, 4, 1, 5}, []int{1, 3, 5, 0, 2, 4}},
		{[][]int{{7, 1}, {7, 1}, {7, 1}, {7, 1}, {7, 1}, {7, 1}}, []int{0, 1, 2, 3, 4, 5}, []int{0, 1, 2, 3, 4, 5}},
		{[][]int{{7, 0}, {7, 1}, {7, 0}, {7, 1}, {7, 0}, {7, 1}}, []int{0, 2, 4, 1, 3, 5}, []int{0, 1, 2, 3, 4, 5}},
	} {
		if got := impl.OrderBy(c.list, "loop"); !slices.Equal(got, c.loop) {
			t.Errorf("OrderBy(%v, loop) = %v, not %v", c.list, got, c.loop)
		}
		if got := impl.OrderBy(c.list, "turn"); !slices.Equal(got, c.turn) {
			t.Errorf("OrderBy(%v, turn) = %v, not %v", c.list, got, c.turn)
		}
	}
	for _, kind := range []string{"", " ", "l", "loo", "loops", " loop", "loop ", "Loop", "LOOP", "loop\x00", "tur", "turns", "Turn", "turn\n", "loopturn", "pool", "\xff"} {
		for _, list := range [][][]int{nil, {{5, 1}}, {{2, 1}, {4, 0}, {6, 1}}} {
			if got := impl.OrderBy(list, kind); len(got) != 0 {
				t.Errorf("OrderBy(%v, %q) = %v, not nothing", list, kind, got)
			}
		}
	}
	for _, list := range notHouses {
		for _, kind := range []string{"loop", "turn", ""} {
			if got := impl.OrderBy(list, kind); len(got) != 0 {
				t.Errorf("OrderBy(%v, %q) = %v, not nothing", list, kind, got)
			}
		}
	}
}

// Promise 17.
func TestOrdersHaveEachHouseOnce(t *testing.T) {
	for _, list := range manyHouses() {
		for _, kind := range []string{"loop", "turn"} {
			got := impl.OrderBy(list, kind)
			if !slices.Equal(got, rightOrder(list, kind)) {
				t.Fatalf("OrderBy(%v, %s) = %v, not %v", list, kind, got, rightOrder(list, kind))
			}
			if once := slices.Sorted(slices.Values(got)); !slices.Equal(once, inOrder(len(list))) {
				t.Fatalf("OrderBy(%v, %s) = %v has not each house once", list, kind, got)
			}
			for i := 1; i < len(got) && kind == "turn"; i++ {
				if list[got[i]][0] < list[got[i-1]][0] {
					t.Fatalf("OrderBy(%v, turn) = %v goes back", list, got)
				}
			}
		}
	}
}

// Promise 18.
func TestMoreHousesAreNoNearer(t *testing.T) {
	for _, list := range manyHouses() {
		for _, cross := range someCosts {
			least := impl.LeastWalk(list, cross)
			want := greatestPlace(list) * 2
			if farSide(list) {
				want += cross * 2
			}
			if least != want {
				t.Fatalf("LeastWalk(%v, %d) = %d, not %d", list, cross, least, want)
			}
			if len(list) == 0 {
				continue
			}
			if fewer := impl.LeastWalk(list[:len(list)-1], cross); fewer > least {
				t.Fatalf("LeastWalk(%v, %d) = %d, and %d without the last house", list, cross, least, fewer)
			}
		}
		if got := impl.LeastWalk(list, 0); got != 2*greatestPlace(list) {
			t.Fatalf("LeastWalk(%v, 0) = %d, not twice %d", list, got, greatestPlace(list))
		}
	}
}

// Promise 86.
func TestDearerStreetsAreNoShorter(t *testing.T) {
	for _, list := range manyHouses() {
		more := 0
		if farSide(list) {
			more = 2
		}
		for cross := range 20 {
			got, dearer := impl.BestWalk(list, cross), impl.BestWalk(list, cross+1)
			if dearer != got+more {
				t.Fatalf("BestWalk(%v) = %d for %d to cross, and %d for 1 more", list, got, cross, dearer)
			}
		}
	}
}

func TestHousesAreNotChangedNorKept(t *testing.T) {
	cells := []int{2, 1, 4, 0, 6, 1, 2, 1}
	whole := [][]int{cells[0:2], cells[2:4], cells[4:6], cells[6:8], {9, 9}}
	order := []int{1, 2, 0, 3, 70}
	list := whole[:4]
	unchanged := func(what string) {
		t.Helper()
		if !slices.Equal(cells, []int{2, 1, 4, 0, 6, 1, 2, 1}) || !slices.Equal(order, []int{1, 2, 0, 3, 70}) {
			t.Fatalf("%s: the houses became %v, and the order %v", what, cells, order)
		}
		for i := range 4 {
			if len(whole[i]) != 2 || &whole[i][0] != &cells[2*i] {
				t.Fatalf("%s: the house %d is another one", what, i)
			}
		}
		if !slices.Equal(whole[4], []int{9, 9}) {
			t.Fatalf("%s: what is behind the houses became %v", what, whole[4])
		}
	}
	impl.ValidHouses(list)
	impl.WalkOf(list, order[:4], 3)
	impl.BestWalk(list, 3)
	impl.LeastWalk(list, 3)
	unchanged("questions")
	for kind, want := range map[string][]int{"loop": {1, 2, 0, 3}, "turn": {0, 3, 1, 2}} {
		spoil(impl.OrderBy(list, kind))
		unchanged("OrderBy")
		if again := impl.OrderBy(list, kind); !slices.Equal(again, want) {
			t.Fatalf("OrderBy keeps what was done to its result: %v", again)
		}
	}
}
