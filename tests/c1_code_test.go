package tests

import (
	"slices"
	"strconv"
	"strings"
	"testing"

	"loop.example/lettersthatarrive/impl"
)

// signs has all digits and, last, the sign of the check 10.
const signs = "0123456789x"

// anyText has texts of the lengths that matter which are neither codes nor digits.
var anyText = []string{
	"", " ", "-", "x", "1234", "1234-", "123-4", "12345-8", "123-48", "1234-88", "1234-8\n", " 1234-8", "1234 8", "12348-", "-12348", "1234_8",
	"1234-X", "1234-y", "1234-a", "1234-:", "1234-/", "1234--", "x234-8", "12x4-8", "123x-8", "12a4-8", "12:4-8", "12/4-8", "+123-8", "-123-8", "12 4-8",
	"\xff234-8", "1234-\xff", "1234-\x00", "\u066123-7", "12\u0663-8", "\u0661\u0662-6", "1234-\u0668", "\uff11\uff12", "0500-10",
}

// notDigits has lists that are not the digits of a code.
var notDigits = [][]int{
	nil, {}, {1}, {1, 2, 3}, {1, 2, 3, 4, 5}, {10, 2, 3, 4}, {1, 10, 3, 4}, {1, 2, 10, 4}, {1, 2, 3, 10}, {-1, 2, 3, 4}, {1, -1, 3, 4}, {1, 2, -1, 4}, {1, 2, 3, -1},
	{0, 0, 0, 11}, {11, 0, 0, 0}, {1 << 62, 1 << 62, 1 << 62, 1 << 62}, {-1 << 63, 0, 0, 0}, {0, 0, 0, 0, 0},
}

func digitsOfNumber(n int) []int {
	return []int{n / 1000, n / 100 % 10, n / 10 % 10, n % 10}
}

// padded writes a number with CodeDigits digits.
func padded(n int) string {
	return strings.Repeat("0", 4-len(strconv.Itoa(n))) + strconv.Itoa(n)
}

// rightCheck is counted by adding, digit by digit, so that it shares nothing with the program.
func rightCheck(n int) int {
	check := 0
	for place, digit := range digitsOfNumber(n) {
		for range digit * (place + 1) {
			check++
			if check == 11 {
				check = 0
			}
		}
	}
	return check
}

// rightCodes returns the code of each number.
func rightCodes() []string {
	list := make([]string, 10000)
	for n := range list {
		list[n] = padded(n) + "-" + signs[rightCheck(n):rightCheck(n)+1]
	}
	return list
}

// slips returns the texts that one slip makes out of a text: a digit or the check is another one, or two digits are exchanged.
func slips(text string) []string {
	var list []string
	for _, place := range []int{0, 1, 2, 3, 5} {
		for i := range signs {
			if signs[i] != text[place] && (place == 5 || signs[i] != 'x') {
				list = append(list, text[:place]+signs[i:i+1]+text[place+1:])
			}
		}
	}
	for place := range 3 {
		if text[place] != text[place+1] {
			list = append(list, text[:place]+text[place+1:place+2]+text[place:place+1]+text[place+2:])
		}
	}
	return list
}

func TestLimitsOfCodes(t *testing.T) {
	if impl.CodeDigits != 4 || impl.MaxRoutes != 8 || impl.MaxOffice != 9 {
		t.Error("a limit of chapter 1 is not that of the document")
	}
}

func TestCheckOfKnown(t *testing.T) {
	for _, c := range []struct {
		digits []int
		check  int
	}{
		{[]int{0, 0, 0, 0}, 0}, {[]int{1, 0, 0, 0}, 1}, {[]int{0, 1, 0, 0}, 2}, {[]int{0, 0, 1, 0}, 3}, {[]int{0, 0, 0, 1}, 4},
		{[]int{9, 0, 0, 0}, 9}, {[]int{0, 5, 0, 0}, 10}, {[]int{1, 2, 3, 4}, 8}, {[]int{9, 9, 9, 9}, 2}, {[]int{9, 1, 0, 0}, 0}, {[]int{8, 1, 0, 0}, 10},
	} {
		if got := impl.CheckOf(c.digits); got != c.check {
			t.Errorf("CheckOf(%v) = %d, not %d", c.digits, got, c.check)
		}
	}
	for _, d := range notDigits {
		if got := impl.CheckOf(d); got != -1 {
			t.Errorf("CheckOf(%v) = %d, not -1", d, got)
		}
	}
}

// Promise 1.
func TestChecksAreRestsBy11(t *testing.T) {
	for n := range 10000 {
		d := digitsOfNumber(n)
		check := impl.CheckOf(d)
		if check < 0 || check > 10 || check != rightCheck(n) {
			t.Fatalf("CheckOf(%v) = %d, not %d", d, check, rightCheck(n))
		}
		for place := range d {
			for other := range 10 {
				changed := slices.Clone(d)
				changed[place] = other
				if other != d[place] && impl.CheckOf(changed) == check {
					t.Fatalf("CheckOf(%v) and CheckOf(%v) are both %d", d, changed, check)
				}
			}
		}
		for place := range 3 {
			exchanged := slices.Clone(d)
			exchanged[place], exchanged[place+1] = d[place+1], d[place]
			if d[place] != d[place+1] && impl.CheckOf(exchanged) == check {
				t.Fatalf("CheckOf(%v) and CheckOf(%v) are both %d", d, exchanged, check)
			}
		}
	}
}

func TestCodeTextKnown(t *testing.T) {
	for _, c := range []struct {
		digits []int
		text   string
	}{
		{[]int{0, 0, 0, 0}, "0000-0"}, {[]int{1, 2, 3, 4}, "1234-8"}, {[]int{0, 5, 0, 0}, "0500-x"}, {[]int{0, 0, 0, 1}, "0001-4"}, {[]int{9, 9, 9, 9}, "9999-2"}, {[]int{8, 1, 0, 0}, "8100-x"}, {[]int{9, 0, 0, 0}, "9000-9"},
	} {
		if got := impl.CodeText(c.digits); got != c.text {
			t.Errorf("CodeText(%v) = %q, not %q", c.digits, got, c.text)
		}
	}
	for _, d := range notDigits {
		if got := impl.CodeText(d); got != "" {
			t.Errorf("CodeText(%v) = %q, not none", d, got)
		}
	}
}

// Promise 2.
func TestCodesAreReadBack(t *testing.T) {
	for n, code := range rightCodes() {
		d := digitsOfNumber(n)
		text := impl.CodeText(d)
		if text != code {
			t.Fatalf("CodeText(%v) = %q, not %q", d, text, code)
		}
		if got, ok := impl.ReadCode(text); !ok || !slices.Equal(got, d) {
			t.Fatalf("ReadCode(%q) = %v, %v", text, got, ok)
		}
	}
}

// Promise 3.
func TestWhatIsReadIsWrittenSo(t *testing.T) {
	codes := rightCodes()
	for n, code := range codes {
		for _, sign := range strings.Split(signs, "") {
			text := padded(n) + "-" + sign
			d, ok := impl.ReadCode(text)
			if ok != (text == code) {
				t.Fatalf("ReadCode(%q) reports %v", text, ok)
			}
			if ok && impl.CodeText(d) != text {
				t.Fatalf("CodeText of ReadCode(%q) = %q", text, impl.CodeText(d))
			}
			if !ok && len(d) != 0 {
				t.Fatalf("ReadCode(%q) = %v with false", text, d)
			}
		}
		if got := impl.RepairsOf(code); len(got) != 0 {
			t.Fatalf("RepairsOf(%q), a code, = %v", code, got)
		}
	}
	for _, s := range anyText {
		if d, ok := impl.ReadCode(s); ok || len(d) != 0 {
			t.Errorf("ReadCode(%q) = %v, %v", s, d, ok)
		}
	}
}

func TestRepairsKnown(t *testing.T) {
	for text, want := range map[string][]string{
		"1234-7": {"0234-7", "1231-7", "1234-8", "1243-7", "1324-7", "1734-7", "2134-7"},
		"0500-9": {"0500-x", "0508-9", "0570-9"},
		"0000-x": {"0000-0", "0008-x", "0070-x", "0500-x"},
		"0000-1": {"0000-0", "0003-1", "0040-1", "0600-1", "1000-1"},
		"1230-x": {"1030-x", "1230-3", "1290-x", "8230-x"},
		"9090-5": {"0090-5", "9060-5", "9090-3", "9096-5", "9190-5", "9900-5"},
		"9999-x": {"6999-x", "9299-x", "9989-x", "9990-x", "9999-2"},
	} {
		if got := impl.RepairsOf(text); !slices.Equal(got, want) {
			t.Errorf("RepairsOf(%q) = %v, not %v", text, got, want)
		}
	}
	for _, s := range append(slices.Clone(anyText), "1234-8", "0000-0", "0500-x") {
		if got := impl.RepairsOf(s); len(got) != 0 {
			t.Errorf("RepairsOf(%q) = %v, not none", s, got)
		}
	}
}

// Promise 4.
func TestRepairsAreCodesAndDifferLittle(t *testing.T) {
	codes := rightCodes()
	for n := range codes {
		for _, sign := range strings.Split(signs, "") {
			text := padded(n) + "-" + sign
			if text == codes[n] {
				continue
			}
			near := slips(text)
			last := -1
			for _, repair := range impl.RepairsOf(text) {
				number, err := strconv.Atoi(repair[:4])
				if err != nil || codes[number] != repair {
					t.Fatalf("RepairsOf(%q) has %q, which is no code", text, repair)
				}
				if number <= last {
					t.Fatalf("RepairsOf(%q) has %q behind %s", text, repair, padded(last))
				}
				if !slices.Contains(near, repair) {
					t.Fatalf("RepairsOf(%q) has %q, which is more than one slip away", text, repair)
				}
				last = number
			}
		}
	}
}

// Promise 67.
func TestWhatIsChangedMayBeRepaired(t *testing.T) {
	codes := rightCodes()
	isCode := map[string]bool{}
	for _, code := range codes {
		isCode[code] = true
	}
	repairs := map[string][]string{}
	for _, code := range codes {
		for _, text := range slips(code) {
			list, asked := repairs[text]
			if !asked {
				list = impl.RepairsOf(text)
				repairs[text] = list
			}
			if !isCode[text] && !slices.Contains(list, code) {
				t.Fatalf("RepairsOf(%q) = %v without %q", text, list, code)
			}
			if isCode[text] {
				t.Fatalf("%q and %q, one slip apart, are both codes", code, text)
			}
		}
	}
}

func TestResultsOfCodesAreFresh(t *testing.T) {
	d := []int{0, 5, 0, 0}
	impl.CheckOf(d)
	impl.CodeText(d)
	if !slices.Equal(d, []int{0, 5, 0, 0}) {
		t.Errorf("the digits became %v", d)
	}
	first, _ := impl.ReadCode("1234-8")
	clear(first)
	_ = append(first, 7)
	if again, ok := impl.ReadCode("1234-8"); !ok || !slices.Equal(again, []int{1, 2, 3, 4}) {
		t.Errorf("ReadCode keeps what was done to its result: %v", again)
	}
	list := impl.RepairsOf("0000-1")
	want := slices.Clone(list)
	clear(list)
	if again := impl.RepairsOf("0000-1"); !slices.Equal(again, want) {
		t.Errorf("RepairsOf keeps what was done to its result: %v", again)
	}
}
