package impl

import (
	"slices"
	"strings"
)

// CodeDigits is how many digits a code has.
const CodeDigits = 4

// MaxRoutes is the largest number of routes.
const MaxRoutes = 8

// MaxOffice is the greatest number of an office.
const MaxOffice = 9

// checks is how many checks there are: a prime above all digits and weights, so that no slip of one digit keeps the check.
const checks = 11

// checkSigns has the sign of each check at the place of its number.
const checkSigns = "0123456789x"

// Route is the office of all digits that begin with a head.
type Route struct {
	Head   string
	Office int
}

// fourDigits is an array, so that a copy can be changed alone and == compares all digits.
type fourDigits [CodeDigits]int

// CheckOf returns the check of digits.
func CheckOf(d []int) int {
	all, ok := digitsOf(d)
	if !ok {
		return -1
	}
	return checkOf(all)
}

// CodeText returns the code of digits.
func CodeText(d []int) string {
	all, ok := digitsOf(d)
	if !ok {
		return ""
	}
	return codeText(all)
}

// ReadCode returns the digits of a code.
func ReadCode(s string) ([]int, bool) {
	d, check, ok := splitCode(s)
	if !ok || checkOf(d) != check {
		return nil, false
	}
	return d[:], true
}

// RepairsOf returns the codes that a text may have been.
func RepairsOf(s string) []string {
	d, check, ok := splitCode(s)
	if !ok || checkOf(d) == check {
		return nil
	}
	// The digits as they are, with their own check, are a repair as well.
	found := []fourDigits{d}
	for _, near := range nearTo(d) {
		if checkOf(near) == check {
			found = append(found, near)
		}
	}
	slices.SortFunc(found, func(a, b fourDigits) int { return slices.Compare(a[:], b[:]) })
	texts := make([]string, 0, len(found))
	for _, f := range found {
		texts = append(texts, codeText(f))
	}
	return texts
}

// ValidRoutes reports whether routes are valid.
func ValidRoutes(list []Route) bool {
	if len(list) > MaxRoutes {
		return false
	}
	for i, r := range list {
		if len(r.Head) > CodeDigits || !onlyDigits(r.Head) || r.Office < 0 || r.Office > MaxOffice {
			return false
		}
		for _, earlier := range list[:i] {
			if earlier.Head == r.Head {
				return false
			}
		}
	}
	return true
}

// OfficeOf returns the office of digits.
func OfficeOf(list []Route, digits string) int {
	if !ValidRoutes(list) || len(digits) != CodeDigits || !onlyDigits(digits) {
		return -1
	}
	i := longestHead(list, digits, -1)
	if i < 0 {
		return -1
	}
	return list[i].Office
}

// TrimRoutes returns routes without those that change nothing.
func TrimRoutes(list []Route) []Route {
	if !ValidRoutes(list) {
		return nil
	}
	kept := slices.Clone(list)
	for i := firstIdle(kept); i >= 0; i = firstIdle(kept) {
		kept = slices.Delete(kept, i, i+1)
	}
	return kept
}

// digitsOf returns the numbers as digits, and whether they are digits.
func digitsOf(list []int) (fourDigits, bool) {
	var d fourDigits
	if len(list) != CodeDigits {
		return fourDigits{}, false
	}
	for i, n := range list {
		if n < 0 || n > 9 {
			return fourDigits{}, false
		}
		d[i] = n
	}
	return d, true
}

func checkOf(d fourDigits) int {
	sum := 0
	for i, n := range d {
		sum += (i + 1) * n
	}
	return sum % checks
}

func codeText(d fourDigits) string {
	text := make([]byte, 0, CodeDigits+2)
	for _, n := range d {
		text = append(text, checkSigns[n])
	}
	text = append(text, '-', checkSigns[checkOf(d)])
	return string(text)
}

func onlyDigits(s string) bool {
	for _, r := range s {
		if r < '0' || r > '9' {
			return false
		}
	}
	return true
}

// readDigits returns the digits of a text of CodeDigits digits alone, and whether it is one.
func readDigits(s string) (fourDigits, bool) {
	if len(s) != CodeDigits || !onlyDigits(s) {
		return fourDigits{}, false
	}
	var d fourDigits
	for i, r := range s {
		d[i] = int(r - '0')
	}
	return d, true
}

// splitCode returns the digits and the check that a text has, whether they belong together or not.
func splitCode(s string) (fourDigits, int, bool) {
	if len(s) != CodeDigits+2 || s[CodeDigits] != '-' {
		return fourDigits{}, 0, false
	}
	d, ok := readDigits(s[:CodeDigits])
	check := strings.IndexByte(checkSigns, s[CodeDigits+1])
	if !ok || check < 0 {
		return fourDigits{}, 0, false
	}
	return d, check, true
}

// nearTo returns the other digits that one changed digit, or two exchanged side by side, make.
func nearTo(d fourDigits) []fourDigits {
	var list []fourDigits
	add := func(near fourDigits) {
		// A digit changed to itself, or exchanged with its like, changes nothing.
		if near != d {
			list = append(list, near)
		}
	}
	for i := range d {
		for n := range 10 {
			near := d
			near[i] = n
			add(near)
		}
		if i > 0 {
			near := d
			near[i-1], near[i] = d[i], d[i-1]
			add(near)
		}
	}
	return list
}

// longestHead returns the index of the route with the longest head with which the text begins, but for the one at skip; -1 if there is none.
func longestHead(list []Route, text string, skip int) int {
	best := -1
	for i, r := range list {
		if i == skip || !strings.HasPrefix(text, r.Head) {
			continue
		}
		if best < 0 || len(r.Head) > len(list[best].Head) {
			best = i
		}
	}
	return best
}

// firstIdle returns the index of the first route that has the office of the longest other one with whose head its own begins; -1 if there is none.
func firstIdle(list []Route) int {
	for i, r := range list {
		outer := longestHead(list, r.Head, i)
		if outer >= 0 && list[outer].Office == r.Office {
			return i
		}
	}
	return -1
}
