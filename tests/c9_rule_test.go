package tests

import (
	"slices"
	"strings"
	"testing"

	"loop.example/lettersthatarrive/impl"
)

// rules writes rules as heads and boxes, one after the other.
func rules(pairs ...any) []impl.Rule {
	var list []impl.Rule
	for i := 0; i < len(pairs); i += 2 {
		list = append(list, impl.Rule{Head: pairs[i].(string), Box: pairs[i+1].(int)})
	}
	return list
}

// marksUpTo returns all marks of at most n letters.
func marksUpTo(n int) []string {
	marks := []string{""}
	for length := 1; length <= n; length++ {
		for _, letters := range allBoxes(length, 2) {
			mark := ""
			for _, letter := range letters {
				mark += "ab"[letter : letter+1]
			}
			marks = append(marks, mark)
		}
	}
	return marks
}

// everyMark has all marks that there are.
var everyMark = marksUpTo(4)

// notMarks has what are neither marks nor heads.
var notMarks = []string{
	"aaaaa", "bbbbb", "ababa", "aaaab", "aaaaaaaa", "c", "ac", "ca", "aca", "abca", "cab", "`", "A", "B", "aB", "0", "1", " ", "a ", " a", "a b", "-", "a-b", "*", "a\n", "\x00", "a\x00", "\xff", "a\xffb", "\xe1", "\xe2b", "\u00e1", "b\u0430", "\uff41", "aa,b", strings.Repeat("ab", 1000),
}

// brokenRules has rules that are not valid, each for one reason.
var brokenRules = [][]impl.Rule{
	rules("aaaaa", 1), rules("ababb", 1), rules("a", 1, "aaaaa", 1), rules("bbbbb", 1, "a", 1), rules("", 1, "a", 1, "baaaa", 2),
	rules("c", 1), rules("A", 1), rules("ab ", 1), rules(" ", 1), rules("aca", 1), rules("0", 1), rules("\xff", 1), rules("\u00e1", 1), rules("a\x00", 1), rules("a", 1, "c", 1), rules("c", 1, "a", 1), rules("", 1, "", 1, "ac", 1),
	rules("a", 10), rules("a", -1), rules("", 10), rules("", -1), rules("a", 1<<62), rules("a", 1<<63-1), rules("a", -1<<63), rules("a", 1, "b", 10), rules("a", -1, "b", 1), rules("", 1, "a", 1, "b", -1),
	rules("", 1, "", 1, "", 1, "", 1, "", 1, "", 1, "", 1, "", 1), rules("a", 1, "b", 2, "aa", 3, "ab", 4, "ba", 5, "bb", 6, "", 7, "aaa", 8), make([]impl.Rule, 8), make([]impl.Rule, 100),
}

// allRules returns all lists of n rules of some heads and some boxes.
func allRules(n int, heads []string, boxes ...int) [][]impl.Rule {
	lists := [][]impl.Rule{{}}
	for range n {
		var longer [][]impl.Rule
		for _, list := range lists {
			for _, head := range heads {
				for _, box := range boxes {
					longer = append(longer, append(slices.Clone(list), impl.Rule{Head: head, Box: box}))
				}
			}
		}
		lists = longer
	}
	return lists
}

// fullRules returns lists of seven rules, each head of at most two letters once: all choices of two boxes, in an order of heads and in those that begin at another place of it.
func fullRules() [][]impl.Rule {
	var lists [][]impl.Rule
	heads := marksUpTo(2)
	for _, order := range [][]int{{6, 5, 4, 3, 2, 1, 0}, {3, 1, 0, 4, 2, 6, 5}, {0, 1, 2, 3, 4, 5, 6}} {
		for first := range order {
			for _, boxes := range allBoxes(7, 2) {
				var list []impl.Rule
				for i := range order {
					list = append(list, impl.Rule{Head: heads[order[(first+i)%7]], Box: boxes[i]})
				}
				lists = append(lists, list)
			}
		}
	}
	return lists
}

// drawnRules returns lists of three to seven rules that follow a rule: heads that often begin with others, and few boxes.
func drawnRules() [][]impl.Rule {
	var lists [][]impl.Rule
	next := 1
	draw := func(n int) int {
		next = (next*1103 + 12347) % 1000003
		return next / 7 % n
	}
	for n := 3; n <= 7; n++ {
		for _, boxes := range []int{1, 2, 3, 10} {
			for range 60 {
				var list []impl.Rule
				for range n {
					head := ""
					for range draw(5) {
						head += "ab"[draw(2):][:1]
					}
					list = append(list, impl.Rule{Head: head, Box: draw(boxes)})
				}
				lists = append(lists, list)
			}
		}
	}
	return lists
}

// manyRules returns all lists of up to two rules of any heads, of three rules of heads of up to two letters, and of four rules of heads of up to one letter, each with few boxes, and longer lists.
func manyRules() [][]impl.Rule {
	return slices.Concat([][]impl.Rule{nil, {}}, allRules(1, everyMark, 0, 1, 9), allRules(2, everyMark, 0, 9), allRules(3, marksUpTo(2), 0, 1), allRules(4, marksUpTo(1), 0, 1, 2), fullRules(), drawnRules())
}

// rightBoxes goes over the rules from the last one up, so that those ahead write over those behind, and returns the boxes of everyMark.
func rightBoxes(list []impl.Rule) []int {
	boxes := slices.Repeat([]int{-1}, len(everyMark))
	for k, mark := range everyMark {
		for i := len(list) - 1; i >= 0; i-- {
			if n := len(list[i].Head); n <= len(mark) && mark[:n] == list[i].Head {
				boxes[k] = list[i].Box
			}
		}
	}
	return boxes
}

// doTheSame reports whether by two lists of rules all marks have the same boxes.
func doTheSame(a, b []impl.Rule) bool {
	return slices.Equal(rightBoxes(a), rightBoxes(b))
}

// rightShadowed returns the rules that are the first ones for no mark at all.
func rightShadowed(list []impl.Rule) []int {
	counts := make([]bool, len(list))
	for _, mark := range everyMark {
		for i, r := range list {
			if n := len(r.Head); n <= len(mark) && mark[:n] == r.Head {
				counts[i] = true
				break
			}
		}
	}
	var indices []int
	for i := range list {
		if !counts[i] {
			indices = append(indices, i)
		}
	}
	return indices
}

// rightTrim looks again and again for the last rule without which all is the same.
func rightTrim(list []impl.Rule) []impl.Rule {
	for i := len(list) - 1; i >= 0; i-- {
		if fewer := withoutRules(list, i); doTheSame(fewer, list) {
			return rightTrim(fewer)
		}
	}
	return list
}

// rightSwap reports whether no mark begins with both heads, or both boxes are the same.
func rightSwap(a, b impl.Rule) bool {
	for _, mark := range everyMark {
		if strings.HasPrefix(mark, a.Head) && strings.HasPrefix(mark, b.Head) {
			return a.Box == b.Box
		}
	}
	return true
}

// withoutRules returns the rules without those of some indices.
func withoutRules(list []impl.Rule, indices ...int) []impl.Rule {
	var fewer []impl.Rule
	for i, r := range list {
		if !slices.Contains(indices, i) {
			fewer = append(fewer, r)
		}
	}
	return fewer
}

// swapped returns the rules with one and that behind it exchanged.
func swapped(list []impl.Rule, i int) []impl.Rule {
	other := slices.Clone(list)
	other[i], other[i+1] = other[i+1], other[i]
	return other
}

// fromTo returns the numbers from one up to less than another one.
func fromTo(from, to int) []int {
	return inOrder(to)[from:]
}

func TestLimitsOfRules(t *testing.T) {
	if impl.MaxMark != 4 || impl.MaxRules != 7 || impl.MaxOffice != 9 {
		t.Error("a limit of chapter 9 is not that of the document")
	}
	if len(everyMark) != 31 {
		t.Error("the marks that are tried are not all")
	}
}

func TestValidRulesKnown(t *testing.T) {
	for _, list := range [][]impl.Rule{
		nil, {}, rules("", 0), rules("", 9), rules("a", 0), rules("b", 9), rules("aaaa", 1), rules("bbbb", 1), rules("abab", 1), rules("baaa", 1),
		rules("a", 1, "a", 1), rules("a", 1, "a", 2), rules("", 1, "", 1), rules("a", 1, "ab", 1), rules("ab", 1, "a", 1),
		rules("", 3, "", 3, "", 3, "", 3, "", 3, "", 3, "", 3), rules("a", 0, "b", 1, "aa", 2, "ab", 3, "ba", 4, "bb", 5, "", 9), make([]impl.Rule, 7),
	} {
		if !impl.ValidRules(list) {
			t.Errorf("ValidRules(%v) is false", list)
		}
	}
	for _, list := range brokenRules {
		if impl.ValidRules(list) {
			t.Errorf("ValidRules(%#v) is true", list)
		}
	}
}

func TestWhatIsARule(t *testing.T) {
	for _, head := range marksUpTo(7) {
		if got := impl.ValidRules(rules(head, 1)); got != (len(head) <= 4) {
			t.Errorf("ValidRules of the head %q is %t", head, got)
		}
	}
	for b := range 256 {
		letter := string([]byte{byte(b)})
		for _, head := range []string{letter, "a" + letter, letter + "b", "ab" + letter + "a", letter + "bbb"} {
			want := letter == "a" || letter == "b"
			if got := impl.ValidRules(rules(head, 1)); got != want {
				t.Errorf("ValidRules of the head %q is %t", head, got)
			}
			if got := impl.BoxOf(rules("", 1), head); got != 1 && want || got != -1 && !want {
				t.Errorf("BoxOf(%q) with one rule for all = %d", head, got)
			}
		}
	}
	for _, head := range notMarks {
		if impl.ValidRules(rules(head, 1)) || impl.ValidRules(rules("a", 1, head, 1)) || impl.ValidRules(rules(head, 1, "a", 1)) {
			t.Errorf("ValidRules with the head %q is true", head)
		}
	}
	for box := -20; box <= 20; box++ {
		want := box >= 0 && box <= 9
		for place := range 7 {
			list := make([]impl.Rule, 7)
			list[place].Box = box
			if got := impl.ValidRules(list); got != want {
				t.Errorf("ValidRules with the box %d at %d is %t", box, place, got)
			}
		}
	}
	for n := range 20 {
		if got := impl.ValidRules(make([]impl.Rule, n)); got != (n <= 7) {
			t.Errorf("ValidRules of %d rules is %t", n, got)
		}
	}
}

func TestBrokenRules(t *testing.T) {
	for _, list := range brokenRules {
		for _, mark := range slices.Concat(everyMark, notMarks) {
			if got := impl.BoxOf(list, mark); got != -1 {
				t.Errorf("BoxOf(%#v, %q) = %d, not -1", list, mark, got)
			}
		}
		for _, other := range append([][]impl.Rule{nil, {}, list, rules("", 1), rules("a", 1, "b", 2), list[:1]}, brokenRules...) {
			if impl.SameRules(list, other) || impl.SameRules(other, list) {
				t.Errorf("SameRules of %#v and %#v is true", list, other)
			}
		}
		if got := impl.ShadowedOf(list); len(got) != 0 {
			t.Errorf("ShadowedOf(%#v) = %v, not nothing", list, got)
		}
		if got := impl.TrimRules(list); len(got) != 0 {
			t.Errorf("TrimRules(%#v) = %v, not nothing", list, got)
		}
		for i := -2; i <= len(list)+1; i++ {
			if impl.MaySwap(list, i) {
				t.Errorf("MaySwap(%#v, %d) is true", list, i)
			}
		}
	}
}

func TestNoRules(t *testing.T) {
	for _, none := range [][]impl.Rule{nil, {}, make([]impl.Rule, 0, 9)} {
		for _, mark := range slices.Concat(everyMark, notMarks) {
			if got := impl.BoxOf(none, mark); got != -1 {
				t.Errorf("BoxOf(no rules, %q) = %d", mark, got)
			}
		}
		if got := impl.ShadowedOf(none); len(got) != 0 {
			t.Errorf("ShadowedOf no rules = %v", got)
		}
		if got := impl.TrimRules(none); len(got) != 0 {
			t.Errorf("TrimRules of no rules = %v", got)
		}
		for _, i := range []int{-1, 0, 1, 1<<63 - 1, -1 << 63} {
			if impl.MaySwap(none, i) {
				t.Errorf("MaySwap(no rules, %d) is true", i)
			}
		}
		if !impl.SameRules(none, nil) || !impl.SameRules(none, []impl.Rule{}) {
			t.Error("SameRules of no rules and no rules is false")
		}
		// A rule for a mark is not the same as none, whatever its box.
		for _, list := range allRules(1, everyMark, 0, 9) {
			if impl.SameRules(none, list) || impl.SameRules(list, none) {
				t.Errorf("SameRules of no rules and %v is true", list)
			}
		}
	}
}

func TestEmptyHeads(t *testing.T) {
	for box := range 10 {
		one := rules("", box)
		for _, mark := range everyMark {
			if got := impl.BoxOf(one, mark); got != box {
				t.Errorf("BoxOf(%v, %q) = %d", one, mark, got)
			}
		}
		for other := range 10 {
			two := rules("", box, "", other)
			if got := impl.ShadowedOf(two); !slices.Equal(got, []int{1}) {
				t.Errorf("ShadowedOf(%v) = %v", two, got)
			}
			if got := impl.TrimRules(two); !slices.Equal(got, one) {
				t.Errorf("TrimRules(%v) = %v", two, got)
			}
			if got := impl.MaySwap(two, 0); got != (box == other) {
				t.Errorf("MaySwap(%v, 0) is %t", two, got)
			}
			if got := impl.SameRules(one, rules("", other)); got != (box == other) {
				t.Errorf("SameRules of %v and the box %d is %t", one, other, got)
			}
		}
		for _, head := range everyMark {
			// All heads begin with the empty one, and so it may not be exchanged with others.
			ahead, behind := rules("", box, head, 9-box), rules(head, 9-box, "", box)
			if impl.MaySwap(ahead, 0) || impl.MaySwap(behind, 0) {
				t.Errorf("MaySwap(%v, 0) or MaySwap(%v, 0) is true", ahead, behind)
			}
			if got := impl.ShadowedOf(ahead); !slices.Equal(got, []int{1}) {
				t.Errorf("ShadowedOf(%v) = %v", ahead, got)
			}
			if got := impl.ShadowedOf(behind); len(got) != 0 && head != "" {
				t.Errorf("ShadowedOf(%v) = %v", behind, got)
			}
		}
	}
	// The empty mark begins with the empty head alone.
	list := rules("a", 1, "b", 2)
	if got := impl.BoxOf(list, ""); got != -1 {
		t.Errorf("BoxOf(%v, \"\") = %d", list, got)
	}
}

func TestRulesThatAreTheSame(t *testing.T) {
	for _, head := range everyMark {
		for n := 1; n <= 7; n++ {
			list := slices.Repeat(rules(head, 3), n)
			if !impl.ValidRules(list) {
				t.Fatalf("ValidRules(%v) is false", list)
			}
			if got := impl.ShadowedOf(list); !slices.Equal(got, fromTo(1, n)) {
				t.Errorf("ShadowedOf(%v) = %v", list, got)
			}
			if got := impl.TrimRules(list); !slices.Equal(got, list[:1]) {
				t.Errorf("TrimRules(%v) = %v", list, got)
			}
			if !impl.SameRules(list, list[:1]) {
				t.Errorf("SameRules of %v and the first one is false", list)
			}
			for i := range n {
				if got := impl.MaySwap(list, i); got != (i < n-1) {
					t.Errorf("MaySwap(%v, %d) is %t", list, i, got)
				}
			}
		}
		// The same head with another box is another rule, and never counts behind the first one.
		list := rules(head, 3, head, 4)
		if impl.BoxOf(list, head) != 3 || impl.MaySwap(list, 0) || impl.SameRules(list, swapped(list, 0)) || !slices.Equal(impl.ShadowedOf(list), []int{1}) || !slices.Equal(impl.TrimRules(list), list[:1]) {
			t.Errorf("%v: BoxOf %d, ShadowedOf %v, TrimRules %v", list, impl.BoxOf(list, head), impl.ShadowedOf(list), impl.TrimRules(list))
		}
	}
}

func TestBoxOfKnown(t *testing.T) {
	list := rules("ab", 1, "a", 2, "abba", 3, "bb", 0, "b", 9, "bbb", 4)
	for mark, want := range map[string]int{
		"": -1, "a": 2, "b": 9, "aa": 2, "ab": 1, "ba": 9, "bb": 0, "abba": 1, "abb": 1, "bbb": 0, "bbbb": 0, "babb": 9, "aaba": 2, "aaaa": 2,
	} {
		if got := impl.BoxOf(list, mark); got != want {
			t.Errorf("BoxOf(%q) = %d, not %d", mark, got, want)
		}
	}
	for _, mark := range notMarks {
		for _, list := range [][]impl.Rule{list, rules("", 5), rules("a", 1, "b", 2, "", 3)} {
			if got := impl.BoxOf(list, mark); got != -1 {
				t.Errorf("BoxOf(%v, %q) = %d, not -1", list, mark, got)
			}
		}
	}
}

func TestTrimRulesKnown(t *testing.T) {
	for _, c := range []struct{ list, want []impl.Rule }{
		{rules("a", 1, "ab", 2, "", 3), rules("a", 1, "", 3)},
		// What is not shadowed may go, too, if what is behind it has the same box.
		{rules("aa", 1, "ab", 1, "a", 1), rules("a", 1)}, {rules("a", 1, "", 1), rules("", 1)}, {rules("aa", 1, "a", 2, "", 1), rules("aa", 1, "a", 2, "", 1)}, {rules("aa", 1, "ab", 2, "a", 1), rules("ab", 2, "a", 1)},
		// Of two that are the same the last one goes first, though either could.
		{rules("a", 1, "b", 2, "a", 1), rules("a", 1, "b", 2)}, {rules("b", 2, "a", 1, "a", 1, "b", 2), rules("b", 2, "a", 1)},
		// One that is gone lets one ahead of it go, which it was in the way of.
		{rules("a", 1, "a", 2, "", 1), rules("", 1)}, {rules("aa", 1, "aa", 2, "a", 3, "a", 1, "", 1), rules("aa", 1, "a", 3, "", 1)}, {rules("ab", 0, "ab", 1, "ab", 2, "a", 0), rules("a", 0)},
		// Two heads that are one letter longer leave the head itself, and no longer marks.
		{rules("aaaa", 1, "aaab", 1, "aaa", 1), rules("aaa", 1)}, {rules("aaaa", 1, "aaab", 1, "aaa", 2), rules("aaaa", 1, "aaab", 1, "aaa", 2)}, {rules("a", 1, "b", 1, "", 2), rules("a", 1, "b", 1, "", 2)}, {rules("a", 1, "b", 2, "", 2), rules("a", 1, "", 2)},
		{rules("a", 0, "b", 0), rules("a", 0, "b", 0)}, {rules("a", 0), rules("a", 0)}, {rules("", 0), rules("", 0)},
		{rules("bbbb", 1, "bbb", 1, "bb", 1, "b", 1, "a", 1, "", 1, "", 1), rules("", 1)}, {rules("", 1, "a", 2, "b", 3, "aa", 4, "ab", 5, "ba", 6, "bb", 7), rules("", 1)},
		{rules("aaaa", 1, "aaa", 2, "aa", 3, "a", 4, "", 5, "b", 6, "bb", 7), rules("aaaa", 1, "aaa", 2, "aa", 3, "a", 4, "", 5)}, {rules("aa", 1, "ab", 2, "ba", 3, "bb", 4, "a", 5, "b", 6, "", 7), rules("aa", 1, "ab", 2, "ba", 3, "bb", 4, "a", 5, "b", 6, "", 7)},
	} {
		if got := impl.TrimRules(c.list); !slices.Equal(got, c.want) {
			t.Errorf("TrimRules(%v) = %v, not %v", c.list, got, c.want)
		}
	}
}

func TestShadowedOfKnown(t *testing.T) {
	for _, c := range []struct {
		list []impl.Rule
		want []int
	}{
		{rules("a", 1, "ab", 2, "", 3), []int{1}}, {rules("ab", 1, "a", 2), nil}, {rules("a", 1, "b", 1), nil}, {rules("a", 1, "ba", 1), nil}, {rules("b", 1, "ab", 1), nil},
		// Two that take all longer marks of a head leave the head itself.
		{rules("a", 1, "b", 1, "", 1), nil}, {rules("aaaa", 1, "aaab", 1, "aaa", 1), nil},
		// The one ahead need not be next to it, and may be shadowed itself.
		{rules("a", 1, "b", 2, "bb", 3, "ab", 4, "bbb", 5, "aba", 6), []int{2, 3, 4, 5}}, {rules("", 0, "a", 1, "b", 2, "aa", 3, "ab", 4, "ba", 5, "bb", 6), []int{1, 2, 3, 4, 5, 6}}, {rules("bbbb", 1, "aaaa", 1, "bbbb", 2, "aaa", 1), []int{2}},
	} {
		if got := impl.ShadowedOf(c.list); !slices.Equal(got, c.want) {
			t.Errorf("ShadowedOf(%v) = %v, not %v", c.list, got, c.want)
		}
	}
}

func TestMaySwapKnown(t *testing.T) {
	for _, c := range []struct {
		list []impl.Rule
		want []bool
	}{
		{rules("a", 1, "b", 2), []bool{true}}, {rules("a", 1, "ab", 2), []bool{false}}, {rules("ab", 2, "a", 1), []bool{false}}, {rules("a", 1, "ab", 1), []bool{true}}, {rules("ab", 1, "a", 1), []bool{true}},
		{rules("a", 1, "ba", 2), []bool{true}}, {rules("ba", 1, "ab", 2), []bool{true}}, {rules("aaaa", 1, "aaab", 2), []bool{true}}, {rules("aaaa", 1, "aaa", 2), []bool{false}}, {rules("a", 0, "a", 9), []bool{false}}, {rules("a", 9, "a", 9), []bool{true}},
		{rules("a", 1, "b", 2, "", 3, "", 3, "aa", 3, "ab", 1, "a", 0), []bool{true, false, true, true, true, false}},
		// Both are shadowed, so that exchanging them would change nothing, and yet they may not be.
		{rules("", 1, "a", 2, "ab", 3), []bool{false, false}},
	} {
		for i, want := range c.want {
			if got := impl.MaySwap(c.list, i); got != want {
				t.Errorf("MaySwap(%v, %d) is %t", c.list, i, got)
			}
		}
		for _, i := range []int{-1, -2, len(c.list) - 1, len(c.list), len(c.list) + 1, 7, 1 << 62, 1<<63 - 2, 1<<63 - 1, -1 << 63} {
			if impl.MaySwap(c.list, i) {
				t.Errorf("MaySwap(%v, %d) is true", c.list, i)
			}
		}
	}
	if impl.MaySwap(rules("a", 1), 0) || impl.MaySwap(rules("a", 1), -1) {
		t.Error("MaySwap of one rule is true")
	}
}

// Promise 47.
func TestRulesCanBeLeftOut(t *testing.T) {
	for _, list := range manyRules() {
		for n := len(list); n >= 0; n-- {
			if !impl.ValidRules(list[:n]) {
				t.Fatalf("ValidRules(%v) is false", list[:n])
			}
		}
	}
}

// Promise 48.
func TestTheFirstRuleCounts(t *testing.T) {
	behind := [][]impl.Rule{rules("", 5), rules("a", 6), rules("abba", 7, "b", 8), rules("bb", 3, "", 4)}
	for i, list := range manyRules() {
		boxes := rightBoxes(list)
		more := slices.Concat(list, behind[i%len(behind)])
		if len(more) > 7 {
			more = more[:7]
		}
		for k, mark := range everyMark {
			got := impl.BoxOf(list, mark)
			if got != boxes[k] {
				t.Fatalf("BoxOf(%v, %q) = %d, not %d", list, mark, got, boxes[k])
			}
			if got != -1 && !slices.ContainsFunc(list, func(r impl.Rule) bool { return r.Box == got && strings.HasPrefix(mark, r.Head) }) {
				t.Fatalf("BoxOf(%v, %q) = %d, the box of no such rule", list, mark, got)
			}
			if with := impl.BoxOf(more, mark); got != -1 && with != got {
				t.Fatalf("BoxOf(%v, %q) = %d, and %d with more rules behind", list, mark, got, with)
			}
		}
	}
}

// Promise 49: all pairs of few rules of short heads, and rules that follow a rule with what differs little from them.
func TestTheSameIsTheSameBothWays(t *testing.T) {
	same, other := 0, 0
	check := func(a, b []impl.Rule, want bool) {
		if got := impl.SameRules(a, b); got != want || impl.SameRules(b, a) != want {
			t.Fatalf("SameRules of %v and %v is %t, and the other way round %t, not %t", a, b, got, impl.SameRules(b, a), want)
		}
		if want {
			same++
		} else {
			other++
		}
		for _, mark := range everyMark {
			if want && impl.BoxOf(a, mark) != impl.BoxOf(b, mark) {
				t.Fatalf("SameRules of %v and %v is true, but BoxOf %q is not the same", a, b, mark)
			}
		}
	}
	few := slices.Concat(allRules(0, nil), allRules(1, marksUpTo(1), 0, 1), allRules(2, marksUpTo(1), 0, 1), allRules(3, marksUpTo(1), 0, 1))
	for i, list := range few {
		for _, earlier := range few[:i+1] {
			check(list, earlier, doTheSame(list, earlier))
		}
	}
	for _, list := range drawnRules() {
		check(list, list, true)
		check(list, slices.Clone(list), true)
		for i := range list {
			changed := slices.Clone(list)
			changed[i].Box = (changed[i].Box + 1) % 10
			for _, near := range [][]impl.Rule{withoutRules(list, i), changed} {
				check(list, near, doTheSame(list, near))
			}
			if i > 0 {
				check(list, swapped(list, i-1), doTheSame(list, swapped(list, i-1)))
			}
		}
	}
	if same < 1000 || other < 1000 {
		t.Fatalf("of rules that are compared %d are the same, and %d are not", same, other)
	}
}

// Promise 49: one mark alone may tell rules apart, whichever it is.
func TestOneMarkTellsRulesApart(t *testing.T) {
	for _, mark := range everyMark {
		one, other := rules(mark, 1), rules(mark, 2)
		if len(mark) < 4 {
			// The longer marks that begin with it have other rules.
			longer := rules(mark+"a", 3, mark+"b", 4)
			one, other = slices.Concat(longer, one), slices.Concat(longer, other)
			if impl.SameRules(longer, one) || impl.SameRules(one, longer) {
				t.Errorf("SameRules of %v and %v is true", longer, one)
			}
		}
		if impl.SameRules(one, other) || impl.SameRules(other, one) {
			t.Errorf("SameRules of %v and %v is true", one, other)
		}
		if !impl.SameRules(one, one) || !impl.SameRules(other, other) {
			t.Errorf("SameRules of %v and itself, or of %v and itself, is false", one, other)
		}
	}
}

// Promise 50.
func TestWhatIsShadowedMayGo(t *testing.T) {
	for _, list := range manyRules() {
		got := impl.ShadowedOf(list)
		if want := rightShadowed(list); !slices.Equal(got, want) {
			t.Fatalf("ShadowedOf(%v) = %v, not %v", list, got, want)
		}
		left := withoutRules(list, got...)
		if !impl.SameRules(list, left) || !doTheSame(list, left) {
			t.Fatalf("%v without ShadowedOf, %v, do not the same", list, got)
		}
		if again := impl.ShadowedOf(left); len(again) != 0 {
			t.Fatalf("%v without ShadowedOf has shadowed ones: %v", list, again)
		}
	}
}

// Promise 51.
func TestTrimmedRulesDoTheSame(t *testing.T) {
	fewer := 0
	for _, list := range manyRules() {
		got := impl.TrimRules(list)
		if want := rightTrim(list); !slices.Equal(got, want) {
			t.Fatalf("TrimRules(%v) = %v, not %v", list, got, want)
		}
		if !impl.SameRules(list, got) || !doTheSame(list, got) {
			t.Fatalf("TrimRules(%v) = %v do not the same", list, got)
		}
		if again := impl.TrimRules(got); !slices.Equal(again, got) {
			t.Fatalf("TrimRules(%v) = %v", got, again)
		}
		unshadowed := len(list) - len(impl.ShadowedOf(list))
		if len(got) > unshadowed {
			t.Fatalf("TrimRules(%v) = %v, but %d are not shadowed", list, got, unshadowed)
		}
		if len(got) < unshadowed {
			fewer++
		}
	}
	if fewer < 500 {
		t.Fatalf("only %d lists lose rules that are not shadowed", fewer)
	}
}

// Promise 52.
func TestWhatMayBeSwappedDoesTheSame(t *testing.T) {
	may, mayNot := 0, 0
	for _, list := range manyRules() {
		for i := range len(list) - 1 {
			got := impl.MaySwap(list, i)
			if want := rightSwap(list[i], list[i+1]); got != want {
				t.Fatalf("MaySwap(%v, %d) is %t", list, i, got)
			}
			if got != impl.MaySwap(swapped(list, i), i) {
				t.Fatalf("MaySwap(%v, %d) is %t, and not so with both exchanged", list, i, got)
			}
			if got && !impl.SameRules(list, swapped(list, i)) {
				t.Fatalf("MaySwap(%v, %d) is true, but with both exchanged they do not the same", list, i)
			}
			// Where the two are alone it is told by what they do.
			if pair := list[i : i+2]; impl.SameRules(pair, swapped(pair, 0)) != got {
				t.Fatalf("MaySwap(%v, %d) is %t, but alone the two do not do so", list, i, got)
			}
			if got {
				may++
			} else {
				mayNot++
			}
		}
	}
	if may < 1000 || mayNot < 1000 {
		t.Fatalf("%d pairs may be exchanged, and %d may not", may, mayNot)
	}
}

// Promise 81.
func TestOneRuleForAllEndsAll(t *testing.T) {
	for i, list := range manyRules() {
		if len(list) == 7 {
			continue
		}
		box := i % 10
		all := slices.Concat(rules("", box), list)
		for _, mark := range everyMark {
			if got := impl.BoxOf(all, mark); got != box {
				t.Fatalf("BoxOf(%v, %q) = %d", all, mark, got)
			}
		}
		if got := impl.ShadowedOf(all); !slices.Equal(got, fromTo(1, len(all))) {
			t.Fatalf("ShadowedOf(%v) = %v", all, got)
		}
		if got := impl.TrimRules(all); !slices.Equal(got, all[:1]) {
			t.Fatalf("TrimRules(%v) = %v", all, got)
		}
		if !impl.SameRules(all, all[:1]) {
			t.Fatalf("SameRules of %v and the first one is false", all)
		}
	}
}

// spoilRules writes over rules, and over their spare capacity.
func spoilRules(list []impl.Rule) {
	list = list[:cap(list)]
	for i := range list {
		list[i] = impl.Rule{Head: "spoilt", Box: -7}
	}
}

func TestRulesAreNotChangedNorKept(t *testing.T) {
	for _, c := range []struct {
		whole    []impl.Rule
		trim     []impl.Rule
		shadowed []int
	}{
		{rules("a", 1, "ab", 2, "", 3, "b", 4, "x", 50, "y", 51), rules("a", 1, "", 3), []int{1, 3}},
		{rules("aa", 1, "ab", 2, "b", 3, "a", 4, "x", 50, "y", 51), rules("aa", 1, "ab", 2, "b", 3, "a", 4), nil},
		{rules("aa", 1, "ab", 1, "a", 1, "a", 1, "x", 50), rules("a", 1), []int{3}},
	} {
		list, before := c.whole[:4], slices.Clone(c.whole)
		unchanged := func(what string) {
			t.Helper()
			if !slices.Equal(c.whole, before) {
				t.Fatalf("%s: the rules became %v", what, c.whole)
			}
		}
		impl.ValidRules(list)
		impl.BoxOf(list, "ab")
		impl.SameRules(list, list[:2])
		impl.SameRules(list[:2], list)
		for i := range list {
			impl.MaySwap(list, i)
		}
		unchanged("questions")
		trim, shadowed := impl.TrimRules(list), impl.ShadowedOf(list)
		for range 2 {
			spoilRules(impl.TrimRules(list))
			unchanged("TrimRules")
			spoil(impl.ShadowedOf(list))
			unchanged("ShadowedOf")
		}
		if !slices.Equal(trim, c.trim) || !slices.Equal(impl.TrimRules(list), c.trim) {
			t.Fatalf("what was done to another result made TrimRules %v, or %v, not %v", trim, impl.TrimRules(list), c.trim)
		}
		if !slices.Equal(shadowed, c.shadowed) || !slices.Equal(impl.ShadowedOf(list), c.shadowed) {
			t.Fatalf("what was done to another result made ShadowedOf %v, or %v, not %v", shadowed, impl.ShadowedOf(list), c.shadowed)
		}
		// Without rules, too, the result has no part of what is behind.
		spoilRules(impl.TrimRules(c.whole[4:4]))
		unchanged("TrimRules of none")
	}
}
