package tests

import (
	"slices"
	"testing"

	"loop.example/lettersthatarrive/impl"
)

// routes writes routes as heads and offices, one after the other.
func routes(pairs ...any) []impl.Route {
	var list []impl.Route
	for i := 0; i < len(pairs); i += 2 {
		list = append(list, impl.Route{Head: pairs[i].(string), Office: pairs[i+1].(int)})
	}
	return list
}

// manyRoutes returns lists of valid routes that follow a rule: few heads and offices, so that heads begin with others and offices return.
func manyRoutes() [][]impl.Route {
	lists := [][]impl.Route{nil, {}}
	next := 1
	draw := func(n int) int {
		next = (next*1103 + 12347) % 1000003
		return next / 7 % n
	}
	for range 150 {
		var list []impl.Route
		seen := map[string]bool{}
		for range draw(12) {
			head := padded(draw(2)*1000 + draw(2)*100 + draw(2)*10 + draw(3))[:draw(5)]
			if len(list) < 8 && !seen[head] {
				seen[head] = true
				list = append(list, impl.Route{Head: head, Office: draw(3) * 4})
			}
		}
		lists = append(lists, list)
	}
	return lists
}

// rightOffice looks the heads of the digits up, the longest first.
func rightOffice(list []impl.Route, digits string) int {
	offices := map[string]int{}
	for _, r := range list {
		offices[r.Head] = r.Office
	}
	for n := 4; n >= 0; n-- {
		if office, ok := offices[digits[:n]]; ok {
			return office
		}
	}
	return -1
}

// changesNothing reports whether the head's next shorter one among the routes has the same office.
func changesNothing(list []impl.Route, head string, office int) bool {
	offices := map[string]int{}
	for _, r := range list {
		offices[r.Head] = r.Office
	}
	for n := len(head) - 1; n >= 0; n-- {
		if outer, ok := offices[head[:n]]; ok {
			return outer == office
		}
	}
	return false
}

// brokenRoutes has routes that are not valid, each for one reason.
var brokenRoutes = [][]impl.Route{
	routes("1", 1, "1", 1), routes("1", 1, "1", 2), routes("", 1, "", 1), routes("12", 1, "3", 1, "4", 1, "12", 2),
	routes("12345", 1), routes("00000", 1), routes("1", 1, "12345", 1),
	routes("a", 1), routes("x", 1), routes("-", 1), routes(" ", 1), routes("1 ", 1), routes("+1", 1), routes("12a", 1), routes("1:", 1), routes("1/", 1), routes("\u0661", 1), routes("\uff11", 1), routes("\xff", 1), routes("1\x00", 1),
	routes("1", 10), routes("1", -1), routes("", 10), routes("", -1), routes("1", 1<<62), routes("1", 1, "2", 10),
	routes("", 1, "0", 1, "1", 1, "2", 1, "3", 1, "4", 1, "5", 1, "6", 1, "7", 1),
}

func TestValidRoutes(t *testing.T) {
	for _, list := range [][]impl.Route{
		nil, {}, routes("", 0), routes("", 9), routes("0", 0), routes("9", 9), routes("1234", 1), routes("0000", 0), routes("9999", 9),
		routes("1", 1, "12", 1, "123", 1, "1234", 1, "", 1), routes("0", 1, "00", 1, "000", 1, "0000", 1), routes("1", 1, "2", 1),
		routes("", 0, "0", 1, "1", 2, "2", 3, "3", 4, "4", 5, "5", 6, "6", 7),
	} {
		if !impl.ValidRoutes(list) {
			t.Errorf("ValidRoutes(%v) is false", list)
		}
	}
	for _, list := range brokenRoutes {
		if impl.ValidRoutes(list) {
			t.Errorf("ValidRoutes(%#v) is true", list)
		}
	}
}

// Promise 5.
func TestRoutesCanBeLeftOut(t *testing.T) {
	for _, list := range manyRoutes() {
		for n := len(list); n >= 0; n-- {
			if !impl.ValidRoutes(list[:n]) {
				t.Fatalf("ValidRoutes(%v) is false", list[:n])
			}
		}
	}
}

func TestOfficeOfKnown(t *testing.T) {
	list := routes("", 1, "12", 2, "123", 3, "2", 1, "1230", 0, "0", 9)
	for digits, want := range map[string]int{
		"1234": 3, "1230": 0, "1299": 2, "1999": 1, "2000": 1, "0123": 9, "0000": 9, "9999": 1, "3123": 1,
		"": -1, "1": -1, "12": -1, "123": -1, "12345": -1, "12300": -1, "12a4": -1, "123x": -1, "x123": -1, "12 4": -1, "-123": -1, "+123": -1, "12:4": -1, "12/4": -1, "1234-8": -1, "\u066123": -1, "\u0661\u0662": -1, "\xff123": -1, "123\x00": -1,
	} {
		if got := impl.OfficeOf(list, digits); got != want {
			t.Errorf("OfficeOf(%q) = %d, not %d", digits, got, want)
		}
	}
	for _, c := range []struct {
		list   []impl.Route
		digits string
		want   int
	}{
		{nil, "1234", -1}, {routes("5", 1), "1234", -1}, {routes("5", 1), "5555", 1}, {routes("23", 1), "1234", -1}, {routes("5555", 7), "5555", 7}, {routes("5555", 7), "5556", -1},
		{routes("", 0), "1234", 0}, {routes("", 4), "12", -1}, {routes("", 4), "", -1}, {routes("", 4), "12345", -1},
	} {
		if got := impl.OfficeOf(c.list, c.digits); got != c.want {
			t.Errorf("OfficeOf(%v, %q) = %d, not %d", c.list, c.digits, got, c.want)
		}
	}
	for _, broken := range brokenRoutes {
		for _, digits := range []string{"1234", "1111", "0000", "12"} {
			if got := impl.OfficeOf(broken, digits); got != -1 {
				t.Errorf("OfficeOf(%#v, %q) = %d, not -1", broken, digits, got)
			}
		}
	}
}

// Promise 6.
func TestTheLongestHeadCounts(t *testing.T) {
	for _, list := range manyRoutes() {
		other := slices.Clone(list)
		slices.Reverse(other)
		for n := range 10000 {
			digits := padded(n)
			want := rightOffice(list, digits)
			if got := impl.OfficeOf(list, digits); got != want {
				t.Fatalf("OfficeOf(%v, %q) = %d, not %d", list, digits, got, want)
			}
			if got := impl.OfficeOf(other, digits); got != want {
				t.Fatalf("OfficeOf(%v, %q) = %d, not %d", other, digits, got, want)
			}
		}
	}
}

func TestTrimRoutesKnown(t *testing.T) {
	for _, c := range []struct{ list, want []impl.Route }{
		{nil, nil},
		{routes("", 0), routes("", 0)},
		{routes("5", 0), routes("5", 0)},
		{routes("", 1, "12", 2, "123", 3, "2", 1), routes("", 1, "12", 2, "123", 3)},
		{routes("2", 1, "123", 3, "12", 2, "", 1), routes("123", 3, "12", 2, "", 1)},
		{routes("1234", 1, "123", 1, "12", 1, "1", 1, "", 1), routes("", 1)},
		{routes("", 1, "1", 1, "12", 1, "123", 1, "1234", 1), routes("", 1)},
		{routes("1", 1, "12", 2, "123", 1), routes("1", 1, "12", 2, "123", 1)},
		{routes("123", 1, "12", 2, "1", 2, "", 1), routes("123", 1, "1", 2, "", 1)},
		{routes("123", 2, "12", 1, "1", 1, "", 2), routes("123", 2, "1", 1, "", 2)},
		{routes("", 0, "1", 0, "2", 0, "3", 1), routes("", 0, "3", 1)},
		{routes("1", 3, "2", 3, "3", 3), routes("1", 3, "2", 3, "3", 3)},
		{routes("12", 3, "1", 4, "21", 3, "2", 3), routes("12", 3, "1", 4, "2", 3)},
		{routes("12", 5, "2", 5), routes("12", 5, "2", 5)},
		{routes("", 1, "0", 1, "1", 1, "2", 1, "3", 1, "4", 1, "5", 1, "6", 1), routes("", 1)},
		{routes("", 1, "0", 2, "1", 3, "2", 4, "3", 5, "4", 6, "5", 7, "6", 8), routes("", 1, "0", 2, "1", 3, "2", 4, "3", 5, "4", 6, "5", 7, "6", 8)},
	} {
		if got := impl.TrimRoutes(c.list); !slices.Equal(got, c.want) {
			t.Errorf("TrimRoutes(%v) = %v, not %v", c.list, got, c.want)
		}
	}
	for _, broken := range brokenRoutes {
		if got := impl.TrimRoutes(broken); len(got) != 0 {
			t.Errorf("TrimRoutes(%#v) = %v, not none", broken, got)
		}
	}
}

// Promise 7.
func TestTrimmedRoutesDoTheSame(t *testing.T) {
	for _, list := range manyRoutes() {
		trim := impl.TrimRoutes(list)
		if again := impl.TrimRoutes(trim); !slices.Equal(again, trim) {
			t.Fatalf("TrimRoutes(%v) = %v", trim, again)
		}
		for n := range 10000 {
			digits := padded(n)
			if got, want := impl.OfficeOf(trim, digits), rightOffice(list, digits); got != want {
				t.Fatalf("OfficeOf(TrimRoutes(%v), %q) = %d, not %d", list, digits, got, want)
			}
		}
		want := slices.DeleteFunc(slices.Clone(list), func(r impl.Route) bool { return changesNothing(list, r.Head, r.Office) })
		if !slices.Equal(trim, want) {
			t.Fatalf("TrimRoutes(%v) = %v, not %v", list, trim, want)
		}
	}
}

// Promise 68.
func TestLongerHeadsTakeTheirPartAlone(t *testing.T) {
	for i, list := range manyRoutes() {
		digits := []string{"0000", "0112", "1101", "7654"}[i%4]
		taken := slices.ContainsFunc(list, func(r impl.Route) bool { return r.Head == digits })
		if taken || len(list) == 8 {
			continue
		}
		more := slices.Insert(slices.Clone(list), i%(len(list)+1), impl.Route{Head: digits, Office: 7})
		for n := range 10000 {
			want := impl.OfficeOf(list, padded(n))
			if padded(n) == digits {
				want = 7
			}
			if got := impl.OfficeOf(more, padded(n)); got != want {
				t.Fatalf("OfficeOf(%v, %q) = %d, not %d", more, padded(n), got, want)
			}
		}
	}
}

func TestRoutesAreNotChangedNorKept(t *testing.T) {
	whole := routes("", 1, "1", 1, "2", 1, "3", 2, "4", 4, "5", 5)
	list := whole[:4]
	before := slices.Clone(whole)
	impl.ValidRoutes(list)
	impl.OfficeOf(list, "1234")
	trim := impl.TrimRoutes(list)
	if !slices.Equal(whole, before) {
		t.Fatalf("the routes became %v", whole)
	}
	for range 4 {
		trim = append(trim, impl.Route{Head: "9", Office: 9})
	}
	clear(trim)
	if !slices.Equal(whole, before) {
		t.Fatalf("what was done to the result made the routes %v", whole)
	}
	kept := impl.TrimRoutes(whole[4:])
	clear(kept)
	_ = append(kept, impl.Route{Head: "9", Office: 9})
	if !slices.Equal(whole, before) {
		t.Fatalf("what was done to routes that all stay made the routes %v", whole)
	}
}
