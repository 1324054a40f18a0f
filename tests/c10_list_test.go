package tests

import (
	"slices"
	"testing"

	"loop.example/lettersthatarrive/impl"
)

// notNames has what are no names.
var notNames = []int{-1, -2, 9, 10, 100, 1 << 32, 1 << 62, 1<<63 - 1, -1 << 63}

// brokenGroups has groups that are not valid, each for one reason.
var brokenGroups = [][][]int{
	make([][]int, 6), make([][]int, 7), make([][]int, 100), {{1}, {2}, {3}, {4}, {5}, {6}},
	{{5, 6, 7, 8, 5}}, {{7, 7, 7, 7, 7}}, {{}, {1, 2, 3, 4, 5}}, {{1, 2, 3, 4, 5}, {}}, {{8}, {8}, {8}, {8}, {0, 1, 2, 3, 4}}, {make([]int, 100)},
	{{9}}, {{-1}}, {{10}}, {{-9}}, {{0, 9}}, {{9, 0}}, {{5, 6, 7, 9}}, {{-1, 6, 7, 8}}, {{8}, {-1}}, {{9}, {8}}, {nil, nil, nil, nil, {9}}, {{1 << 32}}, {{1 << 62}}, {{1<<63 - 1}}, {{-1 << 63}},
}

// brokenNext has what does not tell for each name another one, whatever the name that is asked for.
var brokenNext = [][]int{
	{}, {1}, {-1}, {9}, {0, 2}, {2, 0}, {0, -1}, {-1, 0}, {0, 5}, {1, 1, 3}, {0, 1, 2, 3, 4, 5, 6, 7, 9}, {0, 1, 2, 3, 4, 5, 6, 7, -1}, {9, 1, 2, 3, 4, 5, 6, 7, 8},
	{1 << 62}, {1<<63 - 1}, {-1 << 63}, {0, 1<<63 - 1}, {0, -1 << 63}, make([]int, 10), make([]int, 11), make([]int, 100), inOrder(10),
}

// brokenAnswers has what does not tell for each letter one ahead of it, or none.
var brokenAnswers = [][]int{
	{0}, {1}, {-2}, {-3}, {9}, {-1, 1}, {-1, 2}, {-1, -2}, {-2, -1}, {0, -1}, {1, -1}, {1, 0}, {-1, 0, 2}, {-1, 0, 3}, {-1, 2, 0}, {-1, -1, -1, -1, -1, -1, -1, -1, 8}, {-1, 0, 1, 2, 3, 4, 5, 6, 8}, {-1, 0, 1, 2, 3, 4, 5, 6, -2},
	{1 << 62}, {1<<63 - 1}, {-1 << 63}, {-1, 1<<63 - 1}, {-1, -1 << 63}, slices.Repeat([]int{-1}, 10), slices.Repeat([]int{-1}, 100), {-1, 0, 1, 2, 3, 4, 5, 6, 7, 8}, make([]int, 10),
}

// cloneGroups copies groups and their members.
func cloneGroups(g [][]int) [][]int {
	copied := slices.Clone(g)
	for i := range copied {
		copied[i] = slices.Clone(copied[i])
	}
	return copied
}

// sameGroups reports whether two lists of groups are the same.
func sameGroups(a, b [][]int) bool {
	return slices.EqualFunc(a, b, slices.Equal[[]int])
}

// fewGroups returns all lists of n groups, each with one of some lists of members.
func fewGroups(n int, lists [][]int) [][][]int {
	var all [][][]int
	for _, chosen := range allBoxes(n, len(lists)) {
		g := [][]int{}
		for _, list := range chosen {
			g = append(g, slices.Clone(lists[list]))
		}
		all = append(all, g)
	}
	return all
}

// membersOf returns all lists of at most most members, which are some names.
func membersOf(most int, names ...int) [][]int {
	var lists [][]int
	for length := range most + 1 {
		for _, chosen := range allBoxes(length, len(names)) {
			members := []int{}
			for _, name := range chosen {
				members = append(members, names[name])
			}
			lists = append(lists, members)
		}
	}
	return lists
}

// linkedGroups returns four groups, all sets of the other ones among the members of each, and with them a person of its own.
func linkedGroups() [][][]int {
	var all [][][]int
	for sets := range 1 << 12 {
		g := make([][]int, 4)
		for group := range g {
			g[group] = []int{5 + group}
			set := sets >> (3 * group)
			for k := range 3 {
				if set>>k&1 == 1 {
					g[group] = append(g[group], (group+k+1)%4)
				}
			}
		}
		all = append(all, g)
	}
	return all
}

// chainedGroups returns five groups, each with the next one as a member and the last one with a name, in all orders of groups.
func chainedGroups() [][][]int {
	var all [][][]int
	for _, order := range allRows(5) {
		for last := range 9 {
			g := make([][]int, 5)
			for i := range 4 {
				g[order[i]] = []int{order[i+1]}
			}
			g[order[4]] = []int{last}
			all = append(all, g)
		}
	}
	return all
}

// drawnGroups returns groups that follow a rule: three to five of them, with few or many other groups as members.
func drawnGroups() [][][]int {
	var all [][][]int
	next := 1
	draw := func(n int) int {
		next = (next*1103 + 12347) % 1000003
		return next / 7 % n
	}
	for n := 3; n <= 5; n++ {
		for first := range n + 1 {
			for range 300 {
				g := make([][]int, n)
				for group := range g {
					for range draw(5) {
						g[group] = append(g[group], first+draw(9-first))
					}
				}
				all = append(all, g)
			}
		}
	}
	return all
}

// manyGroups returns all lists of up to two groups of up to two members, one group of up to four members, three groups of up to two members of few names, and longer lists.
func manyGroups() [][][]int {
	return slices.Concat([][][]int{nil, {}}, fewGroups(1, membersOf(4, inOrder(9)...)), fewGroups(2, membersOf(2, inOrder(9)...)), fewGroups(3, membersOf(2, 0, 1, 2, 8)), linkedGroups(), chainedGroups(), drawnGroups())
}

// rightPeople goes all ways over groups on which none comes twice, and returns whom it meets.
func rightPeople(g [][]int, name int) []int {
	met := make([]bool, 9)
	var send func(name int, over []int)
	send = func(name int, over []int) {
		if name >= len(g) {
			met[name] = true
			return
		}
		if slices.Contains(over, name) {
			return
		}
		over = append(slices.Clone(over), name)
		for _, member := range g[name] {
			send(member, over)
		}
	}
	send(name, nil)
	return placesOf(met)
}

// rightLoops joins two ways over each group in turn, and returns the groups that have a way to themselves.
func rightLoops(g [][]int) []int {
	ways := make([][]bool, len(g))
	for group, members := range g {
		ways[group] = make([]bool, len(g))
		for _, member := range members {
			if member < len(g) {
				ways[group][member] = true
			}
		}
	}
	for over := range g {
		for from := range g {
			for to := range g {
				ways[from][to] = ways[from][to] || ways[from][over] && ways[over][to]
			}
		}
	}
	loops := make([]bool, len(g))
	for group := range g {
		loops[group] = ways[group][group]
	}
	return placesOf(loops)
}

// placesOf returns the indices of what is true.
func placesOf(list []bool) []int {
	var places []int
	for i, is := range list {
		if is {
			places = append(places, i)
		}
	}
	return places
}

// peopleAlone reports whether all members of a group are people.
func peopleAlone(g [][]int, group int) bool {
	return !slices.ContainsFunc(g[group], func(member int) bool { return member < len(g) })
}

// canBeTold reports whether the groups can be told one after the other, each one behind all groups among its members.
func canBeTold(g [][]int) bool {
	told := make([]bool, 9)
	for range g {
		for group, members := range g {
			told[group] = told[group] || !slices.ContainsFunc(members, func(member int) bool { return member < len(g) && !told[member] })
		}
	}
	return !slices.Contains(told[:len(g)], false)
}

// rightForward sends a letter on often, and looks for the first name that comes twice.
func rightForward(next []int, i int) (int, int) {
	names := []int{i}
	for range 20 {
		names = append(names, next[names[len(names)-1]])
	}
	for ahead, name := range names {
		if more := slices.Index(names[ahead+1:], name); more == 0 {
			return ahead, 0
		} else if more > 0 {
			return ahead, more + 1
		}
	}
	panic("no name comes twice")
}

// drawnNext returns what follows a rule for seven to nine names.
func drawnNext() [][]int {
	var all [][]int
	draw := 1
	for n := 7; n <= 9; n++ {
		for range 3000 {
			next := []int{}
			for range n {
				draw = (draw*1103 + 12347) % 1000003
				next = append(next, draw/7%n)
			}
			all = append(all, next)
		}
	}
	return all
}

// manyNext returns all that there may be for up to five names, all orders of six names, and some for more.
func manyNext() [][]int {
	var all [][]int
	for n := 1; n <= 5; n++ {
		all = slices.Concat(all, allBoxes(n, n))
	}
	return slices.Concat(all, allRows(6), drawnNext())
}

// eachAnswers calls be with all that n letters may be answers to.
func eachAnswers(n int, be func(to []int)) {
	to := make([]int, n)
	var choose func(answer int)
	choose = func(answer int) {
		if answer == n {
			be(to)
			return
		}
		for letter := -1; letter < answer; letter++ {
			to[answer] = letter
			choose(answer + 1)
		}
	}
	choose(0)
}

// rightDepth goes from an answer up to a letter that is none.
func rightDepth(to []int, answer int) int {
	depth := 0
	for letter := to[answer]; letter != -1; letter = to[letter] {
		depth++
	}
	return depth
}

// rightReading puts one letter after the other to those that are read: each one behind all that stand behind what it answers and are deeper.
func rightReading(to []int) []int {
	order := []int{}
	for answer, letter := range to {
		place := len(order)
		if letter != -1 {
			place = slices.Index(order, letter) + 1
			for place < len(order) && rightDepth(to, order[place]) > rightDepth(to, letter) {
				place++
			}
		}
		order = slices.Insert(order, place, answer)
	}
	return order
}

// isOver reports whether a letter is an answer to another one, over others, too.
func isOver(to []int, answer, letter int) bool {
	for up := to[answer]; up != -1; up = to[up] {
		if up == letter {
			return true
		}
	}
	return false
}

func TestLimitsOfLists(t *testing.T) {
	if impl.MaxGroups != 5 || impl.MaxMembers != 4 || impl.MaxNames != 9 {
		t.Error("a limit of chapter 10 is not that of the document")
	}
}

func TestValidGroupsKnown(t *testing.T) {
	for _, g := range [][][]int{
		nil, {}, {nil}, {{}}, {{0}}, {{8}}, {{0, 0, 0, 0}}, {{5, 6, 7, 8}}, {{8, 7, 6, 5}}, {{1}, {0}}, {{7, 7}}, {{1, 5}, {0, 6}, {7, 7}}, {nil, {}, nil, {}, nil}, make([][]int, 5),
		{{0, 1, 2, 3}, {4, 5, 6, 7}, {8, 8, 8, 8}, {4, 3, 2, 1}, {0, 4, 4, 0}},
	} {
		if !impl.ValidGroups(g) {
			t.Errorf("ValidGroups(%v) is false", g)
		}
	}
	for _, g := range brokenGroups {
		if impl.ValidGroups(g) {
			t.Errorf("ValidGroups(%v) is true", g)
		}
	}
}

func TestWhatIsAGroup(t *testing.T) {
	for n := range 20 {
		if got := impl.ValidGroups(make([][]int, n)); got != (n <= 5) {
			t.Errorf("ValidGroups of %d empty groups is %t", n, got)
		}
		for count := range 20 {
			for group := range min(n, 5) {
				g := make([][]int, n)
				g[group] = slices.Repeat([]int{8}, count)
				if got := impl.ValidGroups(g); got != (n <= 5 && count <= 4) {
					t.Errorf("ValidGroups(%v) is %t", g, got)
				}
			}
		}
	}
	for member := -20; member <= 20; member++ {
		for n := 1; n <= 5; n++ {
			for count := 1; count <= 4; count++ {
				for place := range n * count {
					g := make([][]int, n)
					for group := range g {
						g[group] = make([]int, count)
					}
					g[place/count][place%count] = member
					if got := impl.ValidGroups(g); got != (member >= 0 && member <= 8) {
						t.Errorf("ValidGroups(%v) is %t", g, got)
					}
				}
			}
		}
	}
}

func TestBrokenGroups(t *testing.T) {
	for _, g := range brokenGroups {
		for _, name := range slices.Concat(inOrder(9), notNames) {
			if got := impl.PeopleOf(g, name); len(got) != 0 {
				t.Errorf("PeopleOf(%v, %d) = %v, not nothing", g, name, got)
			}
		}
		if got := impl.LoopsOf(g); len(got) != 0 {
			t.Errorf("LoopsOf(%v) = %v, not nothing", g, got)
		}
	}
	for _, g := range [][][]int{nil, {}, {{5}}, {{1}, {0, 8}}, {{5}, {6}, {7}, {8}, {0, 1, 2, 3}}} {
		for _, name := range notNames {
			if got := impl.PeopleOf(g, name); len(got) != 0 {
				t.Errorf("PeopleOf(%v, %d) = %v, not nothing", g, name, got)
			}
		}
	}
}

func TestPeopleOfKnown(t *testing.T) {
	for _, c := range []struct {
		g    [][]int
		name int
		want []int
	}{
		{[][]int{{1, 5}, {0, 6}, {7, 7}}, 0, []int{5, 6}}, {[][]int{{1, 5}, {0, 6}, {7, 7}}, 1, []int{5, 6}}, {[][]int{{1, 5}, {0, 6}, {7, 7}}, 2, []int{7}}, {[][]int{{1, 5}, {0, 6}, {7, 7}}, 3, []int{3}},
		// The people are ascending, whatever the order of the members.
		{[][]int{{8, 2, 5, 4}}, 0, []int{2, 4, 5, 8}}, {[][]int{{8, 1}, {7, 2}, {6, 3}, {5}}, 0, []int{5, 6, 7, 8}}, {[][]int{{5}, {6, 0}, {7, 1}, {8, 2}}, 3, []int{5, 6, 7, 8}},
		// Over several groups to one person, who is met once.
		{[][]int{{1, 2, 3, 4}, {8}, {8, 8}, {4, 8}, {8, 8, 8, 8}}, 0, []int{8}},
		// As many people as there may be.
		{[][]int{{1, 2, 3, 4}, {2}, {1, 0}, {5, 6, 0}, {7, 8, 3}}, 0, []int{5, 6, 7, 8}}, {[][]int{{1, 2, 3, 4}, {5, 6, 7, 8}}, 0, []int{2, 3, 4, 5, 6, 7, 8}}, {[][]int{{1, 2, 3, 0}, {5, 6, 7, 8}, {1, 4}}, 2, []int{4, 5, 6, 7, 8}},
	} {
		if got := impl.PeopleOf(c.g, c.name); !slices.Equal(got, c.want) {
			t.Errorf("PeopleOf(%v, %d) = %v, not %v", c.g, c.name, got, c.want)
		}
	}
}

func TestLoopsOfKnown(t *testing.T) {
	for _, c := range []struct {
		g    [][]int
		want []int
	}{
		{[][]int{{5}}, nil}, {[][]int{{0}}, []int{0}}, {[][]int{{1, 5}, {0, 6}, {7, 7}}, []int{0, 1}}, {[][]int{{1}, {2}, {0}}, []int{0, 1, 2}},
		// What has a loop as its member, or is a member of one, is none for that.
		{[][]int{{1}, {1}}, []int{1}}, {[][]int{{0, 1}, {8}}, []int{0}}, {[][]int{{1}, {2}, {1, 3}, {8}}, []int{1, 2}}, {[][]int{{4}, {0}, {3}, {2, 1}, {5}}, []int{2, 3}}, {[][]int{{1}, {0}, {0, 3}, {4}, {3}}, []int{0, 1, 3, 4}},
		// Over other groups twice is no loop.
		{[][]int{{1, 2}, {3}, {3}, {8, 8}}, nil}, {[][]int{{1}, {2}, {3}, {4}, {0}}, []int{0, 1, 2, 3, 4}}, {[][]int{{5, 6, 7, 0}, {5, 6, 1, 8}, {5, 2, 7, 8}, {3, 6, 7, 8}, {4, 4, 4, 4}}, []int{0, 1, 2, 3, 4}},
	} {
		if got := impl.LoopsOf(c.g); !slices.Equal(got, c.want) {
			t.Errorf("LoopsOf(%v) = %v, not %v", c.g, got, c.want)
		}
	}
}

func TestEmptyGroups(t *testing.T) {
	for _, g := range [][][]int{nil, {}} {
		for name := range 9 {
			if got := impl.PeopleOf(g, name); !slices.Equal(got, []int{name}) {
				t.Errorf("PeopleOf(no groups, %d) = %v", name, got)
			}
		}
		if got := impl.LoopsOf(g); len(got) != 0 {
			t.Errorf("LoopsOf no groups = %v", got)
		}
	}
	for n := 1; n <= 5; n++ {
		for _, none := range [][]int{nil, {}} {
			g := slices.Repeat([][]int{none}, n)
			for name := range 9 {
				want := []int{name}
				if name < n {
					want = nil
				}
				if got := impl.PeopleOf(g, name); !slices.Equal(got, want) {
					t.Errorf("PeopleOf(%v, %d) = %v, not %v", g, name, got, want)
				}
			}
			if got := impl.LoopsOf(g); len(got) != 0 {
				t.Errorf("LoopsOf(%v) = %v", g, got)
			}
			// A letter over empty groups alone reaches no one, and their loops are loops.
			g[0] = []int{0, n - 1}
			if got := impl.PeopleOf(g, 0); len(got) != 0 {
				t.Errorf("PeopleOf(%v, 0) = %v", g, got)
			}
			if got := impl.LoopsOf(g); !slices.Equal(got, []int{0}) {
				t.Errorf("LoopsOf(%v) = %v", g, got)
			}
		}
	}
}

func TestGroupsOfThemselves(t *testing.T) {
	for n := 1; n <= 5; n++ {
		for count := 1; count <= 4; count++ {
			var g [][]int
			for group := range n {
				g = append(g, slices.Repeat([]int{group}, count))
			}
			if got := impl.LoopsOf(g); !slices.Equal(got, inOrder(n)) {
				t.Errorf("LoopsOf(%v) = %v", g, got)
			}
			for group := range n {
				if got := impl.PeopleOf(g, group); len(got) != 0 {
					t.Errorf("PeopleOf(%v, %d) = %v", g, group, got)
				}
				// With a person beside it, ahead or behind, it reaches this one.
				for person := n; person < 9; person++ {
					for _, members := range [][]int{{group, person}, {person, group}, {group, person, group, person}} {
						with := cloneGroups(g)
						with[group] = members
						if got := impl.PeopleOf(with, group); !slices.Equal(got, []int{person}) {
							t.Errorf("PeopleOf(%v, %d) = %v", with, group, got)
						}
					}
				}
			}
		}
	}
}

func TestForwardOfKnown(t *testing.T) {
	for _, c := range []struct {
		next           []int
		i, ahead, more int
	}{
		{[]int{0}, 0, 0, 0}, {[]int{1, 0}, 0, 0, 2}, {[]int{1, 0}, 1, 0, 2}, {[]int{1, 1}, 0, 1, 0}, {[]int{1, 1}, 1, 0, 0}, {[]int{0, 0}, 1, 1, 0},
		{[]int{1, 2, 0, 3, 3}, 0, 0, 3}, {[]int{1, 2, 0, 3, 3}, 3, 0, 0}, {[]int{1, 2, 0, 3, 3}, 4, 1, 0}, {[]int{1, 2, 1}, 0, 1, 2}, {[]int{1, 2, 1}, 2, 0, 2},
		{[]int{1, 2, 3, 4, 5, 6, 7, 8, 8}, 0, 8, 0}, {[]int{1, 2, 3, 4, 5, 6, 7, 8, 7}, 0, 7, 2}, {[]int{1, 2, 3, 4, 5, 6, 7, 8, 0}, 0, 0, 9}, {[]int{1, 2, 3, 4, 5, 6, 7, 8, 4}, 2, 2, 5}, {[]int{8, 0, 1, 2, 3, 4, 5, 6, 7}, 8, 0, 9}, {[]int{0, 0, 1, 2, 3, 4, 5, 6, 7}, 8, 8, 0},
	} {
		if ahead, more := impl.ForwardOf(c.next, c.i); ahead != c.ahead || more != c.more {
			t.Errorf("ForwardOf(%v, %d) = %d, %d, not %d, %d", c.next, c.i, ahead, more, c.ahead, c.more)
		}
	}
}

func TestForwardOfOthers(t *testing.T) {
	for _, next := range append(brokenNext, nil) {
		for i := -2; i <= len(next)+1; i++ {
			if ahead, more := impl.ForwardOf(next, i); ahead != -1 || more != -1 {
				t.Errorf("ForwardOf(%v, %d) = %d, %d, not -1, -1", next, i, ahead, more)
			}
		}
	}
	for n := 1; n <= 9; n++ {
		for _, i := range slices.Concat(notNames, fromTo(n, 12)) {
			if ahead, more := impl.ForwardOf(inOrder(n), i); ahead != -1 || more != -1 {
				t.Errorf("ForwardOf(%v, %d) = %d, %d, not -1, -1", inOrder(n), i, ahead, more)
			}
		}
		// Wherever one name tells none, also if the letter never comes to it: all others keep theirs.
		for place := range n {
			for _, other := range slices.Concat(notNames, []int{n}) {
				next := inOrder(n)
				next[place] = other
				for i := range n {
					if ahead, more := impl.ForwardOf(next, i); ahead != -1 || more != -1 {
						t.Errorf("ForwardOf(%v, %d) = %d, %d, not -1, -1", next, i, ahead, more)
					}
				}
			}
		}
	}
}

func TestLettersThatStay(t *testing.T) {
	for n := 1; n <= 9; n++ {
		for i := range n {
			if ahead, more := impl.ForwardOf(inOrder(n), i); ahead != 0 || more != 0 {
				t.Errorf("ForwardOf(%v, %d) = %d, %d, not 0, 0", inOrder(n), i, ahead, more)
			}
			for stays := range n {
				next, want := slices.Repeat([]int{stays}, n), 1
				if i == stays {
					want = 0
				}
				if ahead, more := impl.ForwardOf(next, i); ahead != want || more != 0 {
					t.Errorf("ForwardOf(%v, %d) = %d, %d, not %d, 0", next, i, ahead, more, want)
				}
			}
		}
	}
}

// All names are on the way, which comes back to any one of them.
func TestLettersThatComeBack(t *testing.T) {
	for n := 1; n <= 9; n++ {
		for back := range n {
			for first := range n {
				for _, step := range []int{1, 2, 4, 5, 7} {
					if commonFactor(step, n) != 1 {
						continue
					}
					next := make([]int, n)
					for i := range n {
						next[(first+i*step)%n] = (first + (i+1)*step) % n
					}
					next[(first+(n-1)*step)%n] = (first + back*step) % n
					more := n - back
					if back == n-1 {
						more = 0
					}
					if gotAhead, gotMore := impl.ForwardOf(next, first); gotAhead != back || gotMore != more {
						t.Errorf("ForwardOf(%v, %d) = %d, %d, not %d, %d", next, first, gotAhead, gotMore, back, more)
					}
				}
			}
		}
	}
}

func TestReadOrderKnown(t *testing.T) {
	for _, c := range []struct{ to, order, depths []int }{
		{[]int{-1}, []int{0}, []int{0}}, {[]int{-1, -1}, []int{0, 1}, []int{0, 0}}, {[]int{-1, 0}, []int{0, 1}, []int{0, 1}}, {[]int{-1, -1, 0}, []int{0, 2, 1}, []int{0, 0, 1}},
		{[]int{-1, 0, -1, 0, 1}, []int{0, 1, 4, 3, 2}, []int{0, 1, 0, 1, 2}}, {[]int{-1, -1, -1, 2, 1, 0}, []int{0, 5, 1, 4, 2, 3}, []int{0, 0, 0, 1, 1, 1}}, {[]int{-1, 0, 1, -1, 2}, []int{0, 1, 2, 4, 3}, []int{0, 1, 2, 0, 3}},
		{[]int{-1, 0, 0, 1, 2, 1, 2, 3, 4}, []int{0, 1, 3, 7, 5, 2, 4, 8, 6}, []int{0, 1, 1, 2, 2, 2, 2, 3, 3}}, {[]int{-1, 0, 1, 2, 3, 4, 5, 6, 7}, inOrder(9), inOrder(9)}, {[]int{-1, 0, 0, 0, 0, 0, 0, 0, 0}, inOrder(9), []int{0, 1, 1, 1, 1, 1, 1, 1, 1}}, {slices.Repeat([]int{-1}, 9), inOrder(9), make([]int, 9)},
		{[]int{-1, -1, 0, 1, 2, 3, 4, 5, 6}, []int{0, 2, 4, 6, 8, 1, 3, 5, 7}, []int{0, 0, 1, 1, 2, 2, 3, 3, 4}},
	} {
		if got := impl.ReadOrder(c.to); !slices.Equal(got, c.order) {
			t.Errorf("ReadOrder(%v) = %v, not %v", c.to, got, c.order)
		}
		if got := impl.DepthsOf(c.to); !slices.Equal(got, c.depths) {
			t.Errorf("DepthsOf(%v) = %v, not %v", c.to, got, c.depths)
		}
	}
	for _, none := range [][]int{nil, {}} {
		if order, depths := impl.ReadOrder(none), impl.DepthsOf(none); len(order) != 0 || len(depths) != 0 {
			t.Errorf("of no letters ReadOrder is %v, and DepthsOf %v", order, depths)
		}
	}
}

func TestBrokenAnswers(t *testing.T) {
	check := func(to []int, want bool) {
		t.Helper()
		length := 0
		if want {
			length = len(to)
		}
		if order := impl.ReadOrder(to); len(order) != length {
			t.Errorf("ReadOrder(%v) = %v", to, order)
		}
		if depths := impl.DepthsOf(to); len(depths) != length {
			t.Errorf("DepthsOf(%v) = %v", to, depths)
		}
	}
	for _, to := range brokenAnswers {
		check(to, false)
	}
	for n := range 20 {
		check(slices.Repeat([]int{-1}, n), n <= 9)
	}
	// One letter alone is an answer, to one ahead of it or to none.
	for n := 1; n <= 9; n++ {
		for place := range n {
			for _, letter := range slices.Concat(notNames, inOrder(9)) {
				to := slices.Repeat([]int{-1}, n)
				to[place] = letter
				check(to, letter >= -1 && letter < place)
			}
		}
	}
}

// Promise 53.
func TestGroupsCanBeLeftOut(t *testing.T) {
	for _, g := range manyGroups() {
		for n := len(g); n >= 0; n-- {
			if !impl.ValidGroups(g[:n]) {
				t.Fatalf("ValidGroups(%v) is false", g[:n])
			}
		}
	}
}

// Promise 54: in rounds, too, a group reaches whom its members reach.
func TestGroupsReachWhomTheirMembersReach(t *testing.T) {
	for _, g := range manyGroups() {
		people := make([][]int, 9)
		for name := range people {
			people[name] = impl.PeopleOf(g, name)
			if want := rightPeople(g, name); !slices.Equal(people[name], want) {
				t.Fatalf("PeopleOf(%v, %d) = %v, not %v", g, name, people[name], want)
			}
			if name >= len(g) && !slices.Equal(people[name], []int{name}) {
				t.Fatalf("PeopleOf(%v, %d) = %v, not the person alone", g, name, people[name])
			}
		}
		for group, members := range g {
			var all []int
			for _, member := range members {
				all = append(all, people[member]...)
			}
			slices.Sort(all)
			if all = slices.Compact(all); !slices.Equal(people[group], all) {
				t.Fatalf("PeopleOf(%v, %d) = %v, but its members reach %v", g, group, people[group], all)
			}
		}
	}
}

// Promise 55: all groups of up to four members, four groups and no person, and those of manyGroups.
func TestWithoutLoopsGroupsCanBeToldOneAfterTheOther(t *testing.T) {
	loops, none := 0, 0
	check := func(g [][]int) {
		got := impl.LoopsOf(g)
		if want := rightLoops(g); !slices.Equal(got, want) {
			t.Fatalf("LoopsOf(%v) = %v, not %v", g, got, want)
		}
		if slices.ContainsFunc(got, func(group int) bool { return group < 0 || group >= len(g) }) {
			t.Fatalf("LoopsOf(%v) = %v are not groups", g, got)
		}
		if canBeTold(g) != (len(got) == 0) {
			t.Fatalf("LoopsOf(%v) = %v, and it is %t that they can be told one after the other", g, got, canBeTold(g))
		}
		if len(got) > 0 {
			loops++
			return
		}
		none++
		if len(g) > 0 && !slices.ContainsFunc(inOrder(len(g)), func(group int) bool { return peopleAlone(g, group) }) {
			t.Fatalf("LoopsOf(%v) are none, but no group has people alone", g)
		}
	}
	for _, g := range manyGroups() {
		check(g)
	}
	g := make([][]int, 4)
	for sets := range 1 << 16 {
		for group := range g {
			g[group] = g[group][:0]
			for member := range 4 {
				if sets>>(4*group+member)&1 == 1 {
					g[group] = append(g[group], member)
				}
			}
		}
		check(g)
	}
	if loops < 5000 || none < 5000 {
		t.Fatalf("%d lists of groups have loops, and %d have none", loops, none)
	}
}

// Promise 56.
func TestLettersThatAreSentOnComeBackOrStay(t *testing.T) {
	stay, back := 0, 0
	for _, next := range manyNext() {
		for i := range next {
			ahead, more := impl.ForwardOf(next, i)
			if wantAhead, wantMore := rightForward(next, i); ahead != wantAhead || more != wantMore {
				t.Fatalf("ForwardOf(%v, %d) = %d, %d, not %d, %d", next, i, ahead, more, wantAhead, wantMore)
			}
			names := []int{i}
			for range ahead + more {
				names = append(names, next[names[len(names)-1]])
			}
			if names[ahead] != names[ahead+more] {
				t.Fatalf("ForwardOf(%v, %d) = %d, %d, but over %v it does not come back", next, i, ahead, more, names)
			}
			// Up to there all names are others, and so none is the same ahead of that.
			if first := names[:ahead+max(more, 1)]; differentIn(first) != len(first) {
				t.Fatalf("ForwardOf(%v, %d) = %d, %d, but over %v it comes back earlier", next, i, ahead, more, names)
			}
			if stays := next[names[ahead]] == names[ahead]; stays != (more == 0) {
				t.Fatalf("ForwardOf(%v, %d) = %d, %d, and it is %t that it stays", next, i, ahead, more, stays)
			}
			if more == 0 {
				stay++
			} else {
				back++
			}
		}
	}
	if stay < 5000 || back < 5000 {
		t.Fatalf("%d letters stay, and %d come back", stay, back)
	}
}

// Promises 57 and 58: all that there may be.
func TestLettersAreReadBehindWhatTheyAnswer(t *testing.T) {
	for n := range 10 {
		eachAnswers(n, func(to []int) {
			order, depths := impl.ReadOrder(to), impl.DepthsOf(to)
			if want := rightReading(to); !slices.Equal(order, want) {
				t.Fatalf("ReadOrder(%v) = %v, not %v", to, order, want)
			}
			if len(depths) != n {
				t.Fatalf("DepthsOf(%v) = %v", to, depths)
			}
			for answer, letter := range to {
				if want := rightDepth(to, answer); depths[answer] != want {
					t.Fatalf("DepthsOf(%v) = %v, but that of %d is %d", to, depths, answer, want)
				}
				if letter == -1 && depths[answer] != 0 || letter != -1 && depths[answer] != depths[letter]+1 {
					t.Fatalf("DepthsOf(%v) = %v: %d is not one deeper than what it answers", to, depths, answer)
				}
			}
			places := make([]int, n)
			for place, letter := range order {
				places[letter] = place
				if answered := to[letter]; answered != -1 && places[answered] >= place {
					t.Fatalf("ReadOrder(%v) = %v: %d is not behind what it answers", to, order, letter)
				}
				if place > 0 && depths[letter] > depths[order[place-1]]+1 {
					t.Fatalf("DepthsOf(%v) = %v grow by more than one in ReadOrder, %v", to, depths, order)
				}
			}
			if differentIn(order) != n {
				t.Fatalf("ReadOrder(%v) = %v has not each letter once", to, order)
			}
		})
	}
}

// Promise 82.
func TestGroupsOfGroupsReachNoMore(t *testing.T) {
	longer := 0
	for _, g := range manyGroups() {
		for group, members := range g {
			more := slices.Clone(members)
			for _, member := range members {
				if member < len(g) {
					more = append(more, g[member]...)
				}
			}
			if len(more) > 4 || len(more) == len(members) {
				continue
			}
			longer++
			with := cloneGroups(g)
			with[group] = more
			for name := range 9 {
				if got, want := impl.PeopleOf(with, name), impl.PeopleOf(g, name); !slices.Equal(got, want) {
					t.Fatalf("PeopleOf(%v, %d) = %v, but of %v they are %v", with, name, got, g, want)
				}
			}
			if got, want := impl.LoopsOf(with), impl.LoopsOf(g); !slices.Equal(got, want) {
				t.Fatalf("LoopsOf(%v) = %v, but of %v they are %v", with, got, g, want)
			}
		}
	}
	if longer < 5000 {
		t.Fatalf("only %d groups take the members of their members", longer)
	}
}

// Promise 83: all that there may be of up to eight letters.
func TestAnswersStandTogether(t *testing.T) {
	for n := range 9 {
		eachAnswers(n, func(to []int) {
			order := impl.ReadOrder(to)
			for place, letter := range order {
				behind := 0
				for answer := range to {
					if isOver(to, answer, letter) {
						behind++
					}
				}
				for i, other := range order {
					if isOver(to, other, letter) != (i > place && i <= place+behind) {
						t.Fatalf("ReadOrder(%v) = %v: the %d answers to %d do not stand just behind it", to, order, behind, letter)
					}
				}
			}
		})
	}
}

func TestGroupsAreNotChangedNorKept(t *testing.T) {
	whole := [][]int{{7, 1, 50, 51}, {6, 0, 1}, {5, 60}, {2, 8, 2}, {70}}
	g := [][]int{whole[0][:2], whole[1], whole[2][:1], whole[3]}
	before, groups := cloneGroups(whole), cloneGroups(g)
	unchanged := func(what string) {
		t.Helper()
		if !sameGroups(whole, before) || !sameGroups(g, groups) {
			t.Fatalf("%s: the groups became %v, and what they are of %v", what, g, whole)
		}
	}
	impl.ValidGroups(g)
	unchanged("ValidGroups")
	for name, want := range [][]int{{6, 7}, {6, 7}, {5}, {5, 8}, {4}} {
		checkFresh(t, "PeopleOf", func() []int { return impl.PeopleOf(g, name) }, want)
		unchanged("PeopleOf")
	}
	checkFresh(t, "LoopsOf", func() []int { return impl.LoopsOf(g) }, []int{0, 1})
	unchanged("LoopsOf")
}

func TestLettersAreNotChangedNorKept(t *testing.T) {
	whole, sent := []int{-1, 0, -1, 0, 1, 50, 51}, []int{1, 2, 0, 3, 3, 60}
	to, next := whole[:5], sent[:5]
	unchanged := func(what string) {
		t.Helper()
		if !slices.Equal(whole, []int{-1, 0, -1, 0, 1, 50, 51}) || !slices.Equal(sent, []int{1, 2, 0, 3, 3, 60}) {
			t.Fatalf("%s: the answers became %v, and the names %v", what, whole, sent)
		}
	}
	for i := range next {
		impl.ForwardOf(next, i)
		unchanged("ForwardOf")
	}
	checkFresh(t, "ReadOrder", func() []int { return impl.ReadOrder(to) }, []int{0, 1, 4, 3, 2})
	unchanged("ReadOrder")
	checkFresh(t, "DepthsOf", func() []int { return impl.DepthsOf(to) }, []int{0, 1, 0, 1, 2})
	unchanged("DepthsOf")
}
