package tests

import (
	"regexp"
	"slices"
	"strconv"
	"strings"
	"testing"

	"loop.example/lettersthatarrive/impl"
)

// asked is a line, and the answer to it.
type asked struct{ line, answer string }

// deskWords has the words that the desk knows.
var deskWords = []string{"code", "repair", "sort", "stamps", "stacks"}

// answeredLines has lines that are right, with their answers.
var answeredLines = []asked{
	{"code 1234", "1234-8"}, {"code 0000", "0000-0"}, {"code 0001", "0001-4"}, {"code 0500", "0500-x"}, {"code 9999", "9999-2"}, {"code 9000", "9000-9"},

	{"repair 1234-7", "0234-7,1231-7,1234-8,1243-7,1324-7,1734-7,2134-7"}, {"repair 0500-9", "0500-x,0508-9,0570-9"}, {"repair 0000-x", "0000-0,0008-x,0070-x,0500-x"},
	// Codes cannot be repaired.
	{"repair 1234-8", ""}, {"repair 0000-0", ""}, {"repair 0500-x", ""}, {"repair 9999-2", ""},

	{"sort 2 0", "0"}, {"sort 4 0", "0"}, {"sort 2 1,0", "1,0/0,1"}, {"sort 3 0,1,2", "0,1,2"}, {"sort 2 3,2,1,0", "3,2,1,0/2,0,3,1/0,1,2,3"}, {"sort 3 3,2,1,0", "3,2,1,0/3,0,1,2/0,1,2,3"},
	{"sort 4 3,2,1,0", "3,2,1,0/0,1,2,3"}, {"sort 2 0,1,2,3,4,5,6,7,8", "0,1,2,3,4,5,6,7,8"}, {"sort 4 8,0,1,2,3,4,5,6,7", "8,0,1,2,3,4,5,6,7/0,1,2,3,4,5,6,7,8"},

	{"stamps 8 1,4,5", "2 4"}, {"stamps 0 5", "0 0"}, {"stamps 0 1,2,3,4", "0 0"}, {"stamps 140 1", "140 140"}, {"stamps 140 12", "-1 -1"}, {"stamps 120 12", "10 10"}, {"stamps 12 1,10,11,12", "1 1"},
	// Rates that cannot be made, or cannot with the greatest stamp first.
	{"stamps 7 5", "-1 -1"}, {"stamps 1 2,3", "-1 -1"}, {"stamps 139 2,4,6,8", "-1 -1"}, {"stamps 6 3,4", "2 -1"}, {"stamps 15 5,9", "3 -1"},

	{"stacks 0", "0"}, {"stacks 1,0", "0,0"}, {"stacks 0,1", "0,1"}, {"stacks 2,0,3,1", "0,0,1,1"}, {"stacks 0,1,2,3,4,5,6,7,8", "0,1,2,3,4,5,6,7,8"}, {"stacks 8,7,6,5,4,3,2,1,0", "0,0,0,0,0,0,0,0,0"},
}

// nearlyRight has lines that begin with a word of the desk and are not right, each for one reason.
var nearlyRight = []string{
	"code", "code ", "code  ", "code  1234", "code 1234 ", "code 1234 1234", "code 123", "code 12345", "code 1", "code 12a4", "code 12x4", "code 123x", "code -123", "code +123", "code 12.4", "code 12,4", "code 1,2,3,4", "code 1 2 3 4", "code 12 4",
	"code 1234-8", "code 1234-", "code 1234\n", "code \n1234", "code 1234\t", "code \t1234", "code 123\x00", "code 12:4", "code 12/4", "code \xff234", "code 123\xff", "code \u0661\u0662", "code \uff11\uff12", "code \uff113", "code \u0661\u0662\u0663\u0664", "code code 1234", "code what",

	"repair", "repair ", "repair  ", "repair  1234-7", "repair 1234-7 ", "repair 1234", "repair 1234-", "repair 12347", "repair 1234 7", "repair 1234_7", "repair 1234--7", "repair 123-7", "repair 12345-7", "repair 1234-77", "repair 1234-10", "repair 1234-x0", "repair 1234-X", "repair 1234-y", "repair 1234-a", "repair 1234--", "repair 1234-:", "repair 1234-/",
	"repair 12x4-7", "repair x234-7", "repair 123x-8", "repair -1234-7", "repair -7", "repair 7-1234", "repair 1234-7\n", "repair 1234-7,1234-7", "repair 1234-7 1234-7", "repair 1234-\xff", "repair 1234-\u0667", "repair \u0661\u0662-7", "repair 1234\u20107",

	"sort", "sort ", "sort  ", "sort 2", "sort 2 ", "sort 2  0", "sort  2 0", "sort 2 0 ", "sort 2 0 1", "sort 0", "sort 2,0", "sort 0,1", "sort 1 0", "sort 5 0", "sort 0 0", "sort -2 0", "sort 9 0", "sort 1 1,0", "sort 5 1,0", "sort 02 0", "sort +2 0", "sort -0 0", "sort 2. 0", "sort 2,3 0", "sort k 0", "sort x 0", "sort 22 0", "sort 0x2 0", "sort 2_ 0", "sort 1e0 0",
	"sort 18446744073709551618 0", "sort 4294967298 0", "sort 258 0", "sort 9223372036854775808 0", "sort -9223372036854775809 0", "sort 99999999999999999999999999999999 0",
	"sort 2 1", "sort 2 -1", "sort 2 -0", "sort 2 +0", "sort 2 00", "sort 2 0,01", "sort 2 00,1", "sort 2 0,+1", "sort 2 0,0", "sort 2 0,2", "sort 2 1,2", "sort 2 -1,0", "sort 2 0,-1", "sort 2 0,1,1", "sort 2 ,", "sort 2 ,0", "sort 2 0,", "sort 2 0,,1", "sort 2 0, 1", "sort 2 0 ,1", "sort 2 0;1", "sort 2 0/1", "sort 2 01", "sort 2 10", "sort 2 0.1", "sort 2 a", "sort 2 0,b", "sort 2 [0]", "sort 2 0\n", "sort 2\t0", "sort 2 0\t", "sort 2 \u0660", "sort \u0662 0",
	"sort 2 0,1,2,3,4,5,6,7,8,9", "sort 2 9,8,7,6,5,4,3,2,1,0", "sort 2 0,1,2,3,4,5,6,7,9", "sort 2 0,1,2,3,4,5,6,7,8,8", "sort 2 18446744073709551616", "sort 2 4294967296", "sort 2 0,4294967297",

	"stamps", "stamps ", "stamps  ", "stamps 1", "stamps 1 ", "stamps 1  1", "stamps  1 1", "stamps 1 1 ", "stamps 1 1 2", "stamps 1,4,5", "stamps 8,1,4,5", "stamps 141 1", "stamps 142 1", "stamps 1000 1", "stamps -1 1", "stamps -0 1", "stamps -140 1", "stamps 01 1", "stamps 00 1", "stamps +1 1", "stamps 1. 1", "stamps 1.0 1", "stamps a 1", "stamps x 1", "stamps 1_0 1", "stamps 0x1 1", "stamps 1,2 1", "stamps 18446744073709551617 1", "stamps 4294967297 1", "stamps 9223372036854775808 1", "stamps -9223372036854775808 1",
	"stamps 8 0", "stamps 8 13", "stamps 8 -1", "stamps 8 0,1", "stamps 8 1,13", "stamps 8 -1,1", "stamps 8 1,1", "stamps 8 4,1,5", "stamps 8 5,4", "stamps 8 1,4,4", "stamps 8 1,2,3,4,5", "stamps 8 8,9,10,11,12", "stamps 8 01", "stamps 8 1,04", "stamps 8 +1", "stamps 8 1,+4", "stamps 8 ,", "stamps 8 ,1", "stamps 8 1,", "stamps 8 1,,4", "stamps 8 1, 4", "stamps 8 1 ,4", "stamps 8 1;4", "stamps 8 a", "stamps 8 1,b", "stamps 8 1\n", "stamps 8\t1", "stamps 8 1.5", "stamps 8 18446744073709551617", "stamps 8 4294967297", "stamps 8 1,4294967300", "stamps \u0668 1", "stamps 8 \u0661", "stamps 0 0", "stamps 0 13", "stamps 141 5",

	"stacks", "stacks ", "stacks  ", "stacks  0", "stacks 0 ", "stacks 0 0", "stacks 2 0", "stacks 2 1,0", "stacks 1", "stacks -1", "stacks -0", "stacks +0", "stacks 00", "stacks 0,01", "stacks 00,1", "stacks 0,0", "stacks 0,2", "stacks 1,2", "stacks -1,0", "stacks 0,-1", "stacks 0,1,1", "stacks ,", "stacks ,0", "stacks 0,", "stacks 0,,1", "stacks 0, 1", "stacks 0 ,1", "stacks 0;1", "stacks 0/1", "stacks 01", "stacks 10", "stacks a", "stacks 0,b", "stacks 0\n", "stacks \t0", "stacks 0\t", "stacks \u0660",
	"stacks 0,1,2,3,4,5,6,7,8,9", "stacks 9,8,7,6,5,4,3,2,1,0", "stacks 0,1,2,3,4,5,6,7,9", "stacks 0,1,2,3,4,5,6,7,8,8", "stacks 18446744073709551616", "stacks 4294967296", "stacks 0,4294967297",
}

// unknownLines has lines whose first word is none of the desk.
var unknownLines = []string{
	"", " ", "  ", "\n", "\t", "\x00", "\xff", "0", "1234", "1234-7", "-", "walk 1", "walk", "what", "wrong", "what 1", "wrong 1234", "desk 1234",
	" code 1234", "  code 1234", " code", "\tcode 1234", "\ncode 1234", "Code 1234", "CODE 1234", "codes 1234", "cod 1234", "ode 1234", "code1234", "code\t1234", "code\n1234", "code\n", "code\r", "code\x001234", "code,1234", "code:1234", "code-1234", "code\u00a01234", "code\u30001234", "c\u043ede 1234", "\ufeffcode 1234",
	" repair 1234-7", "Repair 1234-7", "REPAIR 1234-7", "repairs 1234-7", "repai 1234-7", "epair 1234-7", "repair1234-7", "repair\t1234-7", "repair-1234-7", "repair\n",
	" sort 2 0", "Sort 2 0", "SORT 2 0", "sorts 2 0", "sor 2 0", "ort 2 0", "sort2 0", "sort2", "sort\t2 0", "sort,2 0", "sort\n",
	" stamps 8 1", "Stamps 8 1", "STAMPS 8 1", "stamp 8 1", "stampss 8 1", "tamps 8 1", "stamps8 1", "stamps\t8 1", "stamps\n",
	" stacks 0", "Stacks 0", "STACKS 0", "stack 0", "stackss 0", "tacks 0", "stacks0", "stacks\t0", "stacks\n", "stacks\v0",
}

// Patterns of right lines. Their lists have yet to be looked at.
var (
	rightCode   = regexp.MustCompile(`^code ([0-9]{4})$`)
	rightRepair = regexp.MustCompile(`^repair ([0-9]{4}-[0-9x])$`)
	rightSorted = regexp.MustCompile(`^sort ([234]) ([0-8](?:,[0-8])*)$`)
	rightStamp  = regexp.MustCompile(`^stamps (0|[1-9][0-9]?|1[0-3][0-9]|140) ((?:[1-9]|1[0-2])(?:,(?:[1-9]|1[0-2])){0,3})$`)
	rightStack  = regexp.MustCompile(`^stacks ([0-8](?:,[0-8])*)$`)
)

// listed returns the numbers of a text that has passed a pattern.
func listed(text string) []int {
	var list []int
	for _, part := range strings.Split(text, ",") {
		list = append(list, numbered(part))
	}
	return list
}

func numbered(text string) int {
	n, err := strconv.Atoi(text)
	if err != nil {
		panic(err)
	}
	return n
}

// written writes numbers with a comma between two of them.
func written(list []int) string {
	text := ""
	for i, n := range list {
		if i > 0 {
			text += ","
		}
		text += strconv.Itoa(n)
	}
	return text
}

func isRow(list []int) bool {
	return slices.Equal(slices.Sorted(slices.Values(list)), inOrder(len(list)))
}

func rightCodeOf(n int) string {
	return padded(n) + "-" + signs[rightCheck(n):rightCheck(n)+1]
}

// rightRepairs returns those texts one slip away that are codes, in order, and none for a code.
func rightRepairs(text string) string {
	isCode := func(text string) bool { return rightCodeOf(numbered(text[:4])) == text }
	if isCode(text) {
		return ""
	}
	near := slices.DeleteFunc(slips(text), func(text string) bool { return !isCode(text) })
	slices.Sort(near)
	return strings.Join(slices.Compact(near), ",")
}

func rightPasses(row []int, k int) string {
	var rows []string
	for _, behind := range rightSort(row, k) {
		rows = append(rows, written(behind))
	}
	return strings.Join(rows, "/")
}

// rightReply answers a line by patterns, and by what the tests of the other chapters hold to be right.
func rightReply(line string) string {
	if m := rightCode.FindStringSubmatch(line); m != nil {
		return rightCodeOf(numbered(m[1]))
	}
	if m := rightRepair.FindStringSubmatch(line); m != nil {
		return rightRepairs(m[1])
	}
	if m := rightSorted.FindStringSubmatch(line); m != nil && isRow(listed(m[2])) {
		return rightPasses(listed(m[2]), numbered(m[1]))
	}
	if m := rightStamp.FindStringSubmatch(line); m != nil && isAscending(listed(m[2])) {
		rate, v := numbered(m[1]), listed(m[2])
		return strconv.Itoa(rightStamps(v)[rate]) + " " + strconv.Itoa(rightGreedy(v, rate))
	}
	if m := rightStack.FindStringSubmatch(line); m != nil && isRow(listed(m[1])) {
		stacks, _ := rightStacks(listed(m[1]))
		return written(stacks)
	}
	for _, word := range deskWords {
		if line == word || strings.HasPrefix(line, word+" ") {
			return "wrong"
		}
	}
	return "what"
}

func isAscending(list []int) bool {
	return len(slices.Compact(slices.Clone(list))) == len(list) && slices.IsSorted(list)
}

// checkDesk asks the lines, as many at once as the desk takes, and holds each answer against the right one.
func checkDesk(t *testing.T, all []asked) {
	t.Helper()
	for part := range slices.Chunk(all, 20) {
		lines, want := []string{}, ""
		for _, a := range part {
			lines = append(lines, a.line)
			want += a.answer + "\n"
		}
		if impl.RunDesk(lines) == want {
			continue
		}
		for _, a := range part {
			if got := impl.RunDesk([]string{a.line}); got != a.answer+"\n" {
				t.Fatalf("RunDesk %q = %q, not %q", a.line, got, a.answer+"\n")
			}
		}
		t.Fatalf("RunDesk(%q) = %q, not %q", lines, impl.RunDesk(lines), want)
	}
}

// manyLines returns lines of all kinds, right and not, with their answers.
func manyLines() []asked {
	all := slices.Clone(answeredLines)
	for _, line := range nearlyRight {
		all = append(all, asked{line, "wrong"})
	}
	for _, line := range unknownLines {
		all = append(all, asked{line, "what"})
	}
	return all
}

// drawnLines returns lists of 0 to 20 lines that follow a rule.
func drawnLines(lists int) [][]asked {
	// As many of each kind of answer are drawn from, though there are more lines that are wrong.
	kinds := [][]asked{answeredLines, nil, nil}
	for _, a := range manyLines()[len(answeredLines):] {
		kind := 1
		if a.answer == "what" {
			kind = 2
		}
		kinds[kind] = append(kinds[kind], a)
	}
	var all [][]asked
	next := 1
	draw := func(n int) int {
		next = (next*1103 + 12347) % 1000003
		return next / 7 % n
	}
	for count := range 21 {
		for range lists {
			list := []asked{}
			for range count {
				kind := kinds[draw(len(kinds))]
				list = append(list, kind[draw(len(kind))])
			}
			all = append(all, list)
		}
	}
	return all
}

// linesOf returns the lines alone.
func linesOf(list []asked) []string {
	lines := []string{}
	for _, a := range list {
		lines = append(lines, a.line)
	}
	return lines
}

// answersTo returns the answers, each with a newline behind it.
func answersTo(list []asked) string {
	all := ""
	for _, a := range list {
		all += a.answer + "\n"
	}
	return all
}

// editsOf returns the texts that differ from a text at one place: a sign left out, another one in its place, one more, or two exchanged.
func editsOf(text string, withSigns []string) []string {
	var list []string
	for place := range len(text) + 1 {
		for _, sign := range withSigns {
			list = append(list, text[:place]+sign+text[place:])
		}
		if place == len(text) {
			break
		}
		list = append(list, text[:place]+text[place+1:])
		for _, sign := range withSigns {
			list = append(list, text[:place]+sign+text[place+1:])
		}
		if place > 0 {
			list = append(list, text[:place-1]+text[place:place+1]+text[place-1:place]+text[place+1:])
		}
	}
	return list
}

func TestLimitOfTheDesk(t *testing.T) {
	if impl.MaxDesk != 20 {
		t.Error("the limit of chapter 12 is not that of the document")
	}
}

func TestDeskKnown(t *testing.T) {
	for _, a := range answeredLines {
		if got := impl.RunDesk([]string{a.line}); got != a.answer+"\n" {
			t.Errorf("RunDesk %q = %q, not %q", a.line, got, a.answer+"\n")
		}
		if right := rightReply(a.line); right != a.answer {
			t.Errorf("%q is answered by %q, but the test holds %q to be right", a.line, a.answer, right)
		}
	}
}

func TestDeskOfLinesThatAreNearlyRight(t *testing.T) {
	for _, line := range nearlyRight {
		if got := impl.RunDesk([]string{line}); got != "wrong\n" {
			t.Errorf("RunDesk %q = %q, not wrong", line, got)
		}
	}
}

func TestDeskOfUnknownWords(t *testing.T) {
	for _, line := range unknownLines {
		if got := impl.RunDesk([]string{line}); got != "what\n" {
			t.Errorf("RunDesk %q = %q, not what", line, got)
		}
	}
}

func TestDeskOfNoLinesAndTooMany(t *testing.T) {
	if impl.RunDesk(nil) != "" || impl.RunDesk([]string{}) != "" {
		t.Error("RunDesk of no lines has an answer")
	}
	for _, a := range []asked{{"code 1234", "1234-8"}, {"repair 1234-8", ""}, {"", "what"}, {"code", "wrong"}} {
		for count := range 21 {
			if got, want := impl.RunDesk(slices.Repeat([]string{a.line}, count)), strings.Repeat(a.answer+"\n", count); got != want {
				t.Errorf("RunDesk of %d lines %q = %q, not %q", count, a.line, got, want)
			}
		}
		for _, count := range []int{21, 22, 40, 41, 100, 256, 276, 65556} {
			if got := impl.RunDesk(slices.Repeat([]string{a.line}, count)); got != "" {
				t.Errorf("RunDesk of %d lines %q = %q", count, a.line, got)
			}
		}
	}
}

func TestDeskOfAllDigits(t *testing.T) {
	var all []asked
	for n, code := range rightCodes() {
		all = append(all, asked{"code " + padded(n), code})
		for _, sign := range strings.Split(signs, "") {
			text := padded(n) + "-" + sign
			all = append(all, asked{"repair " + text, rightRepairs(text)})
		}
	}
	if len(all) != 120000 {
		t.Fatalf("there are %d lines", len(all))
	}
	checkDesk(t, all)
}

func TestDeskOfRows(t *testing.T) {
	var all []asked
	for _, row := range manyRows() {
		if len(row) == 0 {
			continue
		}
		stacks, _ := rightStacks(row)
		all = append(all, asked{"stacks " + written(row), written(stacks)})
		for k := -1; k <= 12; k++ {
			answer := "wrong"
			if k >= 2 && k <= 4 {
				answer = rightPasses(row, k)
			}
			all = append(all, asked{"sort " + strconv.Itoa(k) + " " + written(row), answer})
		}
	}
	checkDesk(t, all)
}

func TestDeskOfOtherRows(t *testing.T) {
	var all []asked
	for _, list := range notRows {
		all = append(all, asked{"stacks " + written(list), "wrong"})
		for k := 1; k <= 5; k++ {
			all = append(all, asked{"sort " + strconv.Itoa(k) + " " + written(list), "wrong"})
		}
	}
	checkDesk(t, all)
}

func TestDeskOfAllStamps(t *testing.T) {
	var all []asked
	for _, v := range allStamps() {
		fewest := rightStamps(v)
		for rate := range 141 {
			all = append(all, asked{"stamps " + strconv.Itoa(rate) + " " + written(v), strconv.Itoa(fewest[rate]) + " " + strconv.Itoa(rightGreedy(v, rate))})
		}
		for _, rate := range notRates {
			all = append(all, asked{"stamps " + strconv.Itoa(rate) + " " + written(v), "wrong"})
		}
	}
	for _, v := range notStamps {
		for rate := -1; rate <= 142; rate++ {
			all = append(all, asked{"stamps " + strconv.Itoa(rate) + " " + written(v), "wrong"})
		}
	}
	checkDesk(t, all)
}

func TestDeskOfOtherTexts(t *testing.T) {
	var all []asked
	for _, text := range anyText {
		for _, word := range deskWords {
			line := word + " " + text
			// Of these texts digits alone are right, and only for a code.
			if line == "code 1234" {
				continue
			}
			all = append(all, asked{line, "wrong"})
		}
	}
	for _, word := range deskWords {
		for _, other := range deskWords {
			all = append(all, asked{word + " " + other, "wrong"}, asked{word + other, "what"}, asked{word + "," + other + " 1234", "what"})
		}
	}
	checkDesk(t, all)
}

// All lines one sign away from some right ones, with any sign that a byte may be.
func TestDeskOfLinesOneSignAway(t *testing.T) {
	var all []asked
	anySign := []string{"\u0661", "\u0664", "\uff11", "\u2010", "\u00a0", "\u2002", "00", "10", "  ", ",,", "-1", "+0"}
	for b := range 256 {
		anySign = append(anySign, string([]byte{byte(b)}))
	}
	for _, line := range []string{
		"code 1234", "code 0500", "repair 1234-7", "repair 0500-x", "sort 2 0", "sort 3 3,2,1,0", "sort 4 2,0,1", "sort 2 8,7,6,5,4,3,2,1,0",
		"stamps 8 1,4,5", "stamps 0 12", "stamps 14 1,2,11,12", "stamps 140 3", "stacks 0", "stacks 2,0,3,1", "stacks 0,1,2,3,4,5,6,7,8",
	} {
		for _, edited := range editsOf(line, anySign) {
			all = append(all, asked{edited, rightReply(edited)})
		}
	}
	checkDesk(t, all)
}

// All lines two signs away from some short right ones, with the signs that matter.
func TestDeskOfLinesTwoSignsAway(t *testing.T) {
	fewSigns := []string{" ", ",", "-", "+", "x", "0", "1", "2", "9", "s", "\n"}
	for _, line := range []string{"code 0500", "repair 1234-7", "sort 2 1,0", "stamps 10 1,4", "stamps 7 5", "stacks 1,0"} {
		seen := map[string]bool{}
		var all []asked
		for _, edited := range editsOf(line, fewSigns) {
			for _, twice := range editsOf(edited, fewSigns) {
				if !seen[twice] {
					seen[twice] = true
					all = append(all, asked{twice, rightReply(twice)})
				}
			}
		}
		checkDesk(t, all)
	}
}

// Promise 66: each line has an answer.
func TestEachLineHasAnAnswer(t *testing.T) {
	for _, list := range drawnLines(40) {
		lines := linesOf(list)
		got := impl.RunDesk(lines)
		if got != answersTo(list) {
			t.Fatalf("RunDesk(%q) = %q, not %q", lines, got, answersTo(list))
		}
		if strings.Count(got, "\n") != len(lines) || len(lines) > 0 && !strings.HasSuffix(got, "\n") {
			t.Fatalf("RunDesk(%q) = %q has not as many newlines as there are lines", lines, got)
		}
		for cut := range len(lines) + 1 {
			if ahead, behind := impl.RunDesk(lines[:cut]), impl.RunDesk(lines[cut:]); ahead+behind != got {
				t.Fatalf("RunDesk(%q) = %q, but of its halves it is %q and %q", lines, got, ahead, behind)
			}
		}
	}
}

// Promise 66: a line has the same answer at each place, whatever the other lines are.
func TestAnswersAreTheSameAtEachPlace(t *testing.T) {
	for _, a := range manyLines() {
		for place := range 20 {
			for _, other := range []asked{{"code 1234", "1234-8"}, {"sort 2 1", "wrong"}, {"walk", "what"}} {
				list := slices.Repeat([]asked{other}, 20)
				list[place] = a
				if got := impl.RunDesk(linesOf(list)); got != answersTo(list) {
					t.Fatalf("RunDesk with %q at the place %d = %q", a.line, place, got)
				}
			}
		}
	}
}

// Lines that are very long are wrong, or what, as others are.
func TestDeskOfLongLines(t *testing.T) {
	long := 100000
	for _, a := range []asked{
		{strings.Repeat("a", long), "what"}, {strings.Repeat(" ", long), "what"}, {strings.Repeat("code ", long), "wrong"}, {"code " + strings.Repeat("1", long), "wrong"}, {"repair 1234-" + strings.Repeat("7", long), "wrong"},
		{"sort " + strings.Repeat("2", long) + " 0", "wrong"}, {"sort 2 0" + strings.Repeat(",0", long), "wrong"}, {"sort 2 " + strings.Repeat("0", long), "wrong"}, {"stamps " + strings.Repeat("0", long) + " 1", "wrong"}, {"stamps 1 1" + strings.Repeat(",1", long), "wrong"}, {"stamps 1 " + strings.Repeat(",", long), "wrong"},
		{"stacks " + written(inOrder(long/10)), "wrong"}, {"stacks " + strings.Repeat("9", long), "wrong"}, {"stacks -" + strings.Repeat("9", long), "wrong"},
	} {
		if got := impl.RunDesk([]string{a.line}); got != a.answer+"\n" {
			t.Errorf("RunDesk %q.. = %q, not %q", a.line[:20], got[:min(len(got), 100)], a.answer)
		}
	}
}

func TestLinesAreNotChangedNorKept(t *testing.T) {
	for _, list := range drawnLines(5) {
		whole := append(linesOf(list), "code 1234", "stacks 0")
		before := slices.Clone(whole)
		lines := whole[:len(list)]
		for range 2 {
			if got := impl.RunDesk(lines); got != answersTo(list) {
				t.Fatalf("RunDesk(%q) = %q", lines, got)
			}
			if !slices.Equal(whole, before) {
				t.Fatalf("the lines became %q", whole)
			}
		}
		clear(whole)
		if got := impl.RunDesk(before[:len(list)]); got != answersTo(list) {
			t.Fatalf("RunDesk(%q) = %q behind other lines", before[:len(list)], got)
		}
	}
}
