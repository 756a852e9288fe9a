package lines_test

import (
	"math"
	"regexp"
	"slices"
	"strconv"
	"strings"
	"testing"

	"cardcase/lines"
	"cardcase/sample"
)

// numbered is a line with the number of the one with which it begins.
type numbered struct {
	number int
	line   string
}

// String is a number and a line as errors tell them.
func (n numbered) String() string { return strconv.Itoa(n.number) + ": " + strconv.Quote(n.line) }

// pieces are what texts that are gone through in many tests are made of.
var pieces = []string{"\n", "\r\n", "\n", "\r\n", " ", "\t", "\n ", "\r\n\t", "\r", "\r\r\n", "a", "bc", "def ghi", "\x00", "\xff", "\xc3\xa9"}

// items are what lists of lines are made of: one letter of a text stands for one of them.
var items = map[string]string{"0": "", "1": " ", "2": "\t", "3": "a", "4": " b", "5": "c ", "6": "\td\xff"}

// odd are lines that no writer makes, and ones that look like blanks or ends, but are none.
var odd = []string{"\n", "\r", "\r\n", "a\n", "a\r", "\na", "\ra", "a\nb", "a\rb", " \n", "\n ", "\t\r", "\r ", " \r\n", "\r\n ", "a\r\n b", "\x00", "\x00 ", " \x00", "\xff", "\xff ", " \xff", "\xc2\xa0", "\xc2", "\xa0", "\x0b", "\x0b a", "\x0c", "\x0c a", "\x1f", "\x85", "\xc2\x85", "\xe2\x80\xa8", "\xe2\x80\xa9a", "\xe3\x80\x80a", "\xed\xa0\x80"}

// texts are those that are parted into lines.
func texts() []string {
	l := append(sample.Texts("a\r\n", 8), sample.Texts("a \t\r\n", 6)...)
	l = append(l, sample.Texts(strings.Join(sample.Bytes(), ""), 2)...)
	l = append(l, sample.Mixed(30000, 30, pieces)...)
	return append(l, sample.Mixed(3000, 60, sample.Bytes())...)
}

// lists are lists of lines, empty ones and blank ones at every place.
func lists() [][]string {
	l := [][]string{nil, {}}
	for _, s := range append(sample.Texts("0123456", 5), sample.Mixed(3000, 40, []string{"0", "1", "2", "3", "4", "5", "6", "4", "6"})...) {
		var list []string
		for i := range len(s) {
			list = append(list, items[s[i:i+1]])
		}
		l = append(l, list)
	}
	for _, a := range odd {
		l = append(l, []string{a}, []string{a, a}, []string{"", a}, []string{a, ""}, []string{a, " b"}, []string{" b", a})
		for _, b := range odd {
			l = append(l, []string{a, b}, []string{b, "a", a}, []string{"a", b, a})
		}
	}
	return append(l, odd, sample.Bytes(), sample.Mixed(300, 9, pieces), sample.Mixed(300, 9, sample.Bytes()))
}

// anEnd is what ends a line.
var anEnd = regexp.MustCompile("\r?\n")

// splitWords is 7.1's Split said once more, by a pattern.
func splitWords(s string) []string {
	l := anEnd.Split(s, -1)
	if last := len(l) - 1; l[last] == "" {
		return l[:last]
	}
	return l
}

// eachWords is 7.2's Unfold said once more, with numbers: from the last line on, each by itself.
func eachWords(l []string) []numbered {
	var out []numbered
	behind := ""
	for i := len(l) - 1; i >= 0; i-- {
		behind = l[i] + behind
		if i == 0 || !strings.HasPrefix(l[i], " ") && !strings.HasPrefix(l[i], "\t") {
			out = append(out, numbered{i + 1, behind})
			behind = ""
		}
	}
	slices.Reverse(out)
	return out
}

// linesOf are lines without their numbers.
func linesOf(l []numbered) []string {
	var out []string
	for _, one := range l {
		out = append(out, one.line)
	}
	return out
}

// each gathers lines as far as there are any, up to stop of them.
func each(pairs func(func(int, string) bool), stop int) []numbered {
	var out []numbered
	pairs(func(number int, line string) bool {
		out = append(out, numbered{number, line})
		return len(out) < stop
	})
	return out
}

// split holds Split against what it must answer.
func split(t *testing.T, s string, want ...string) {
	t.Helper()
	if got := lines.Split(s); !slices.Equal(got, want) {
		t.Errorf("Split(%q): %q, not %q", s, got, want)
	}
}

// joined holds Join against what it must answer.
func joined(t *testing.T, want string, l ...string) {
	t.Helper()
	if got := lines.Join(l); got != want {
		t.Errorf("Join(%q): %q, not %q", l, got, want)
	}
}

// folded holds Fold against what it must answer, and Unfold of that.
func folded(t *testing.T, s string, width int, want ...string) {
	t.Helper()
	got := lines.Fold(s, width)
	if !slices.Equal(got, want) {
		t.Errorf("Fold(%q, %d): %q, not %q", s, width, got, want)
	}
	if back := lines.Unfold(got); len(back) != 1 || back[0] != s {
		t.Errorf("Unfold of Fold(%q, %d): %q", s, width, back)
	}
}

// unfolded holds Unfold against what it must answer.
func unfolded(t *testing.T, l []string, want ...string) {
	t.Helper()
	if got := lines.Unfold(l); !slices.Equal(got, want) {
		t.Errorf("Unfold(%q): %q, not %q", l, got, want)
	}
}

// told holds Each against what it must tell.
func told(t *testing.T, s string, want ...numbered) {
	t.Helper()
	if got := each(lines.Each(s), math.MaxInt); !slices.Equal(got, want) {
		t.Errorf("Each(%q): %v, not %v", s, got, want)
	}
}

// 7.1: Split.
func TestSplit(t *testing.T) {
	split(t, "a\r\n\r\nb", "a", "", "b")
	// no text, and ends alone
	split(t, "")
	split(t, "\n", "")
	split(t, "\n\n", "", "")
	split(t, "\n\n\n", "", "", "")
	split(t, "\r\n", "")
	split(t, "\r\n\r\n", "", "")
	split(t, "\r\n\n", "", "")
	split(t, "\n\r\n", "", "")
	// with and without an end behind the last line
	split(t, "a", "a")
	split(t, "a\n", "a")
	split(t, "a\r\n", "a")
	split(t, "a\nb", "a", "b")
	split(t, "a\r\nb", "a", "b")
	split(t, "a\nb\n", "a", "b")
	split(t, "a\r\nb\nc\r\n", "a", "b", "c")
	// empty lines first, in the middle and last
	split(t, "\na", "", "a")
	split(t, "\n\na\n", "", "", "a")
	split(t, "a\n\nb", "a", "", "b")
	split(t, "a\r\n\n\r\nb\n", "a", "", "", "b")
	split(t, "a\n\n", "a", "")
	split(t, "a\r\n\r\n\n", "a", "", "")
	// a carriage return alone, twice ahead of a line feed, behind it, within a line, ahead of its first byte, as the text's last byte
	split(t, "\r", "\r")
	split(t, "\r\r", "\r\r")
	split(t, "\r\r\n", "\r")
	split(t, "a\r\r\n", "a\r")
	split(t, "a\r\r\r\nb", "a\r\r", "b")
	split(t, "\n\r", "", "\r")
	split(t, "a\n\rb", "a", "\rb")
	split(t, "\n\r\n\r", "", "", "\r")
	split(t, "a\rb", "a\rb")
	split(t, "a\rb\nc\rd", "a\rb", "c\rd")
	split(t, "\ra", "\ra")
	split(t, "\r\n\ra\r\n", "", "\ra")
	split(t, "a\r", "a\r")
	split(t, "a\nb\r", "a", "b\r")
	split(t, "a\r\n\r", "a", "\r")
	split(t, "a\r \n", "a\r ")
	// blanks are as other bytes are
	split(t, " \n\t\n a", " ", "\t", " a")
	split(t, "a \r\n\t", "a ", "\t")
	// bytes that are no right letters, bytes 0, and what ends lines elsewhere
	split(t, "\xff\n\xc3\r\n\xa9\x00", "\xff", "\xc3", "\xa9\x00")
	split(t, "\x00\n\x00", "\x00", "\x00")
	split(t, "\x00\r\x00\n", "\x00\r\x00")
	split(t, "a\x0bb\x0cc\x85d\xc2\x85e\xe2\x80\xa8f\xe2\x80\xa9g\x1eh", "a\x0bb\x0cc\x85d\xc2\x85e\xe2\x80\xa8f\xe2\x80\xa9g\x1eh")
	split(t, "\xc4\x8a\xe2\x84\x8a", "\xc4\x8a\xe2\x84\x8a")
}

// 7.1: Split of each byte, alone, ahead of an end, behind one and between two.
func TestSplitEachByte(t *testing.T) {
	for _, b := range sample.Bytes() {
		if b == "\n" || b == "\r" {
			continue
		}
		split(t, b, b)
		for _, end := range []string{"\n", "\r\n"} {
			split(t, b+end, b)
			split(t, end+b, "", b)
			split(t, end+b+end, "", b)
			split(t, "a"+b+end+b+"c", "a"+b, b+"c")
			split(t, "a"+b+"c"+end+end+b+b, "a"+b+"c", "", b+b)
			split(t, b+"\r"+b+end, b+"\r"+b)
			split(t, b+"\r"+end+"\r"+b, b+"\r"[:len(end)-1], "\r"+b)
		}
	}
}

// 7.1: Join.
func TestJoin(t *testing.T) {
	joined(t, "")
	if got := lines.Join([]string{}); got != "" {
		t.Errorf("Join of a list without members: %q", got)
	}
	joined(t, "\r\n", "")
	joined(t, "\r\n\r\n", "", "")
	joined(t, "\r\n\r\n\r\n", "", "", "")
	joined(t, "a\r\n", "a")
	joined(t, "a\r\nb\r\n", "a", "b")
	joined(t, "a\r\n\r\nb\r\n", "a", "", "b")
	joined(t, "\r\na\r\n\r\n", "", "a", "")
	joined(t, " a\r\n\t\r\nb \r\n", " a", "\t", "b ")
	// lines that no writer makes, as they are
	joined(t, "\n\r\n", "\n")
	joined(t, "\r\r\n", "\r")
	joined(t, "\r\n\r\n", "\r\n")
	joined(t, "a\n\r\nb\r\r\nc\r\n\r\n", "a\n", "b\r", "c\r\n")
	joined(t, "a\nb\r\nc\rd\r\n", "a\nb", "c\rd")
	joined(t, "\x00\r\n\xff\xc3\r\n\xa9\r\n", "\x00", "\xff\xc3", "\xa9")
}

// 7.1: Split of many texts, and Join of many lists.
func TestSplitAndJoinMany(t *testing.T) {
	for _, s := range texts() {
		split(t, s, splitWords(s)...)
	}
	for _, l := range lists() {
		// As often as there is a line an end stands ahead of what comes behind it.
		joined(t, strings.Join(append(slices.Clone(l), ""), "\r\n"), l...)
	}
}

// 7.2: Fold.
func TestFold(t *testing.T) {
	folded(t, "ab cd ef", 5, "ab cd", " ef")
	folded(t, "", 5, "")
	folded(t, "a", 5, "a")
	// the line's size, one fewer and one more
	folded(t, "ab cd", 4, "ab", " cd")
	folded(t, "ab cd", 5, "ab cd")
	folded(t, "ab cd", 6, "ab cd")
	folded(t, "abcd ", 4, "abcd", " ")
	folded(t, "abcd ", 5, "abcd ")
	folded(t, "a b ", 3, "a b", " ")
	// no blank at all, none but at place 0, none but behind the width
	folded(t, "abcdef", 5, "abcdef")
	folded(t, "abcdefgh", 2, "abcdefgh")
	folded(t, " abcdef", 3, " abcdef")
	folded(t, "\tabcdef", 3, "\tabcdef")
	folded(t, "abcd ef", 3, "abcd ef")
	folded(t, "abcd\tef gh ij", 3, "abcd\tef gh ij")
	folded(t, " abcd ef", 4, " abcd ef")
	// what is left has a blank at place 0 alone, or behind the width alone
	folded(t, "ab cdef", 4, "ab", " cdef")
	folded(t, "ab cdef gh", 4, "ab", " cdef gh")
	folded(t, "ab cdef gh", 5, "ab", " cdef", " gh")
	// at place 0 and at 1, at the width, and one behind it
	folded(t, " bcdef", 4, " bcdef")
	folded(t, "a cdef", 4, "a", " cdef")
	folded(t, "abcd f", 4, "abcd", " f")
	folded(t, "abcde ", 4, "abcde ")
	folded(t, "a\tcdef", 4, "a", "\tcdef")
	folded(t, "abcd\tf", 4, "abcd", "\tf")
	folded(t, "abcde\t", 4, "abcde\t")
	folded(t, "  cdef", 4, " ", " cdef")
	folded(t, "\t\tcdef", 4, "\t", "\tcdef")
	// several within the width: the last one; blanks alone
	folded(t, "a b c d e", 6, "a b c", " d e")
	folded(t, "a \tb", 3, "a ", "\tb")
	folded(t, "a\t b", 3, "a\t", " b")
	folded(t, "a  b", 2, "a ", " b")
	folded(t, "a    b", 3, "a  ", "  b")
	folded(t, "   ", 2, "  ", " ")
	folded(t, "    ", 2, "  ", "  ")
	folded(t, "     ", 3, "   ", "  ")
	folded(t, " \t \t ", 3, " \t ", "\t ")
	folded(t, "\t\t\t", 2, "\t\t", "\t")
	// what is left just as long as the width, and one byte longer
	folded(t, "ab cd ef", 3, "ab", " cd", " ef")
	folded(t, "ab cd efg", 4, "ab", " cd", " efg")
	folded(t, "abc def ghi", 4, "abc", " def", " ghi")
	folded(t, "abc def ghij", 4, "abc", " def", " ghij")
	folded(t, "abc d fgh", 5, "abc d", " fgh")
	folded(t, "abc d e g", 5, "abc d", " e g")
	folded(t, "abc d e gh", 5, "abc d", " e gh")
	folded(t, "abc d e ghi", 5, "abc d", " e", " ghi")
	// bytes as they are: places are places of bytes
	folded(t, "\xc3\xa9\xc3\xa9 a", 4, "\xc3\xa9\xc3\xa9", " a")
	folded(t, "\xc3\xa9\xc3\xa9 a", 3, "\xc3\xa9\xc3\xa9 a")
	folded(t, "\xff \x00 \xc3", 3, "\xff \x00", " \xc3")
	folded(t, "\x00\x00 \x00", 2, "\x00\x00", " \x00")
	folded(t, "a\xc2\xa0b\xe3\x80\x80c", 3, "a\xc2\xa0b\xe3\x80\x80c")
	folded(t, "a\nb\x0bc\x0cd\re\x1ff\x21g", 2, "a\nb\x0bc\x0cd\re\x1ff\x21g")
	// lines that no writer makes
	folded(t, "a\n b\r c\r", 3, "a\n", " b\r", " c\r")
	folded(t, "a\r\n b", 3, "a\r\n", " b")
}

// 7.2: widths below 2 are 2.
func TestFoldNarrow(t *testing.T) {
	for _, width := range []int{2, 1, 0, -1, -2, -5, -1 << 31, -1 << 32, 2 - 1<<32, 5 - 1<<32, math.MinInt, math.MinInt + 1, math.MinInt + 5} {
		folded(t, "", width, "")
		folded(t, "a", width, "a")
		folded(t, " ", width, " ")
		folded(t, "a ", width, "a ")
		folded(t, "  ", width, "  ")
		folded(t, "a b", width, "a", " b")
		folded(t, "ab ", width, "ab", " ")
		folded(t, "ab c", width, "ab", " c")
		folded(t, "abc d", width, "abc d")
		folded(t, " a b", width, " a", " b")
		folded(t, "a b c d", width, "a", " b", " c", " d")
		folded(t, "ab cd ef", width, "ab", " cd ef")
	}
	folded(t, "ab cd ef", 3, "ab", " cd", " ef")
	folded(t, "abc d", 3, "abc", " d")
}

// 7.2: widths that are far too great.
func TestFoldWide(t *testing.T) {
	for _, width := range []int{1 << 31, 1<<31 - 1, 1<<32 + 2, 1 << 40, math.MaxInt, math.MaxInt - 1, math.MaxInt - 5} {
		for _, s := range append([]string{"", " ", "ab cd ef", " \t \t", strings.Repeat("a ", 5000)}, odd...) {
			folded(t, s, width, s)
		}
	}
}

// 7.2: each byte is a blank one, or none.
func TestFoldEachByte(t *testing.T) {
	for _, b := range sample.Bytes() {
		for _, width := range []int{2, 3, 4} {
			s := "ab"[:min(width, 2)] + b + "cdef"
			if b == " " || b == "\t" {
				folded(t, s, width, "ab", b+"cdef")
			} else {
				folded(t, s, width, s)
			}
		}
	}
}

// partedRight holds lines against what 7.2 says of each that Fold makes.
func partedRight(t *testing.T, s string, width int, l []string) {
	t.Helper()
	if strings.Join(l, "") != s || len(l) == 0 {
		t.Fatalf("Fold(%q, %d): %q", s, width, l)
	}
	most := width
	if most < 2 {
		most = 2
	}
	left := s
	for i, line := range l {
		// Within the places 1 to the width, and so one byte behind that, stands the last blank byte.
		last := -1
		if len(left) > most {
			last = strings.LastIndexAny(left[1:most+1], " \t")
		}
		if i == len(l)-1 && (line != left || last >= 0) || i < len(l)-1 && len(line) != last+1 || i < len(l)-1 && last < 0 {
			t.Fatalf("Fold(%q, %d): %q as line %d of %q", s, width, line, i, l)
		}
		left = left[len(line):]
	}
}

// 7.2 and 7.3: Fold of many lines, by many widths, and Unfold of what it makes.
func TestFoldMany(t *testing.T) {
	l := append(sample.Texts("a ", 9), sample.Texts("a\t ", 6)...)
	l = append(l, sample.Mixed(3000, 40, []string{"a", "b", "cde", " ", "\t", "\r\n", "\x00", "\xff"})...)
	l = append(l, sample.Mixed(300, 90, sample.Bytes())...)
	alone, parted := 0, 0
	for _, s := range append(l, odd...) {
		for width := -1; width <= min(len(s)+2, 20); width++ {
			got := lines.Fold(s, width)
			partedRight(t, s, width, got)
			unfolded(t, got, s)
			if len(got) == 1 {
				alone++
			} else {
				parted++
			}
		}
	}
	if alone < 5000 || parted < 5000 {
		t.Errorf("%d lines stay as they are, %d are parted", alone, parted)
	}
}

// 7.2: the width of cards.
func TestFoldLong(t *testing.T) {
	for size := range 200 {
		word := strings.Repeat("a", size)
		for _, s := range []string{word + " b", "b " + word, word + "\t" + word, strings.Repeat(word+" ", 5), strings.Repeat(" "+word, 5), strings.Repeat(" ", size) + word} {
			for _, width := range []int{size - 1, size, size + 1, 75} {
				got := lines.Fold(s, width)
				partedRight(t, s, width, got)
				unfolded(t, got, s)
			}
		}
	}
}

// 7.2: Unfold.
func TestUnfold(t *testing.T) {
	unfolded(t, nil)
	unfolded(t, []string{})
	unfolded(t, []string{""}, "")
	unfolded(t, []string{"", ""}, "", "")
	unfolded(t, []string{"", "", ""}, "", "", "")
	unfolded(t, []string{"a"}, "a")
	unfolded(t, []string{"a", "b"}, "a", "b")
	unfolded(t, []string{"a", "", "b"}, "a", "", "b")
	// a blank or a tab, as it is
	unfolded(t, []string{"a", " b"}, "a b")
	unfolded(t, []string{"a", "\tb"}, "a\tb")
	unfolded(t, []string{"a", "  b"}, "a  b")
	unfolded(t, []string{"a ", " b"}, "a  b")
	unfolded(t, []string{"a", "b "}, "a", "b ")
	unfolded(t, []string{"a", "b c"}, "a", "b c")
	// first, second, one behind another
	unfolded(t, []string{" a"}, " a")
	unfolded(t, []string{"\ta"}, "\ta")
	unfolded(t, []string{" a", "b"}, " a", "b")
	unfolded(t, []string{" a", " b"}, " a b")
	unfolded(t, []string{"\ta", "\tb", "c"}, "\ta\tb", "c")
	unfolded(t, []string{"a", " b", " c"}, "a b c")
	unfolded(t, []string{"a", " b", "\tc", "d", " e", "f"}, "a b\tc", "d e", "f")
	unfolded(t, []string{"a", "b", " c"}, "a", "b c")
	// lines that have nothing else
	unfolded(t, []string{" "}, " ")
	unfolded(t, []string{"\t"}, "\t")
	unfolded(t, []string{"a", " "}, "a ")
	unfolded(t, []string{"a", "\t", "b"}, "a\t", "b")
	unfolded(t, []string{" ", " ", " "}, "   ")
	unfolded(t, []string{"a", " ", "\t", " b"}, "a \t b")
	unfolded(t, []string{" ", "a"}, " ", "a")
	// behind empty lines: these are lines as others are, and an empty one never goes behind another
	unfolded(t, []string{"", " a"}, " a")
	unfolded(t, []string{"", " a", " b"}, " a b")
	unfolded(t, []string{"a", "", " b"}, "a", " b")
	unfolded(t, []string{"a", "", " b", " c", "d"}, "a", " b c", "d")
	unfolded(t, []string{"", "", " a"}, "", " a")
	unfolded(t, []string{"a", " b", "", " c", ""}, "a b", " c", "")
	unfolded(t, []string{"a", " ", ""}, "a ", "")
	unfolded(t, []string{" ", "", "\t"}, " ", "\t")
	// lines that no writer makes, and what looks like a blank
	unfolded(t, []string{"a\n", " b"}, "a\n b")
	unfolded(t, []string{"a\r", "\tb\r"}, "a\r\tb\r")
	unfolded(t, []string{"a", "\n b"}, "a", "\n b")
	unfolded(t, []string{"a", "\r b"}, "a", "\r b")
	unfolded(t, []string{"a\n b", " c\r\n"}, "a\n b c\r\n")
	unfolded(t, []string{"\x00", " \x00", "\x00 "}, "\x00 \x00", "\x00 ")
	unfolded(t, []string{"\xff", " \xc3", "\xa9"}, "\xff \xc3", "\xa9")
	unfolded(t, []string{"a", "\xc2\xa0b", "\xe3\x80\x80c", "\x0bd", "\x0ce", "\x1ff"}, "a", "\xc2\xa0b", "\xe3\x80\x80c", "\x0bd", "\x0ce", "\x1ff")
}

// 7.2: each byte begins a line that goes behind another, or doesn't.
func TestUnfoldEachByte(t *testing.T) {
	for _, b := range sample.Bytes() {
		unfolded(t, []string{b}, b)
		for _, behind := range []string{"", "b", " ", "\x00"} {
			if b == " " || b == "\t" {
				unfolded(t, []string{"a", b + behind}, "a"+b+behind)
				unfolded(t, []string{b, b + behind, "c"}, b+b+behind, "c")
			} else {
				unfolded(t, []string{"a", b + behind}, "a", b+behind)
				unfolded(t, []string{b, b + behind, "c"}, b, b+behind, "c")
			}
		}
	}
}

// 7.2: Unfold of many lists.
func TestUnfoldMany(t *testing.T) {
	for _, l := range lists() {
		unfolded(t, l, linesOf(eachWords(l))...)
	}
}

// 7.2: Each.
func TestEach(t *testing.T) {
	told(t, "")
	told(t, "a", numbered{1, "a"})
	told(t, "a\n", numbered{1, "a"})
	told(t, "a\r\nb", numbered{1, "a"}, numbered{2, "b"})
	told(t, "\n", numbered{1, ""})
	told(t, "\n\n", numbered{1, ""}, numbered{2, ""})
	told(t, "a\r\n\r\nb", numbered{1, "a"}, numbered{2, ""}, numbered{3, "b"})
	told(t, "\na\n\n", numbered{1, ""}, numbered{2, "a"}, numbered{3, ""})
	// numbers behind lines that were put behind others
	told(t, "a\n b", numbered{1, "a b"})
	told(t, "a\n b\nc", numbered{1, "a b"}, numbered{3, "c"})
	told(t, "a\r\n b\r\n\tc\r\nd\r\n", numbered{1, "a b\tc"}, numbered{4, "d"})
	told(t, "a\nb\n c\n d\ne\n f\ng", numbered{1, "a"}, numbered{2, "b c d"}, numbered{5, "e f"}, numbered{7, "g"})
	told(t, "a\n \n\t\nb\n ", numbered{1, "a \t"}, numbered{4, "b "})
	// the first line is one, whatever it begins with
	told(t, " ", numbered{1, " "})
	told(t, " a\nb", numbered{1, " a"}, numbered{2, "b"})
	told(t, "\ta\n b\nc", numbered{1, "\ta b"}, numbered{3, "c"})
	// behind empty ones
	told(t, "\n a", numbered{1, " a"})
	told(t, "\n a\n b\nc", numbered{1, " a b"}, numbered{4, "c"})
	told(t, "\n\n a\nb", numbered{1, ""}, numbered{2, " a"}, numbered{4, "b"})
	told(t, "a\n\n b\n\nc", numbered{1, "a"}, numbered{2, " b"}, numbered{4, ""}, numbered{5, "c"})
	// carriage returns that are no end's
	told(t, "a\r\r\n b\r", numbered{1, "a\r b\r"})
	told(t, "\r\n\r\r\n \r\n\r", numbered{1, ""}, numbered{2, "\r "}, numbered{4, "\r"})
	told(t, "a\r b\nc", numbered{1, "a\r b"}, numbered{2, "c"})
	// bytes that are no right letters, and bytes 0
	told(t, "\xff\n \xc3\n\xa9", numbered{1, "\xff \xc3"}, numbered{3, "\xa9"})
	told(t, "\x00\n\x00\n \x00", numbered{1, "\x00"}, numbered{2, "\x00 \x00"})
}

// 7.2: Each of many texts.
func TestEachMany(t *testing.T) {
	together, empty := 0, 0
	for _, s := range texts() {
		l := splitWords(s)
		want := eachWords(l)
		told(t, s, want...)
		unfolded(t, lines.Split(s), linesOf(want)...)
		if len(want) < len(l) {
			together++
		}
		if slices.Contains(want, numbered{2, ""}) {
			empty++
		}
	}
	if together < 10000 || empty < 5000 {
		t.Errorf("%d texts have lines that go behind others, %d an empty one", together, empty)
	}
}

// 7.2: lines that are left early tell nothing more, and tell all again when they are gone through again.
func TestEachLeftEarly(t *testing.T) {
	for _, s := range []string{"a\n\n b\nc\n d\n e\nf", " a\r\n\tb\r\nc\r\n", "a", "\n\n\n", "a\n b"} {
		pairs := lines.Each(s)
		all := eachWords(splitWords(s))
		for stop := 1; stop <= len(all)+1; stop++ {
			if got := each(pairs, stop); !slices.Equal(got, all[:min(stop, len(all))]) {
				t.Errorf("Each(%q), left at %d: %v", s, stop, got)
			}
			for number, line := range pairs {
				if number != 1 || line != all[0].line {
					t.Errorf("Each(%q), behind a break at %d: %d, %q first", s, stop, number, line)
				}
				break
			}
			if again := each(pairs, math.MaxInt); !slices.Equal(again, all) {
				t.Errorf("Each(%q), behind a break at %d: %v", s, stop, again)
			}
		}
	}
}

// 7.2: lines gone through within themselves don't get in one another's way.
func TestEachWithinThemselves(t *testing.T) {
	got := ""
	pairs := lines.Each("a\n b\nc\nd\n e")
	for first, a := range pairs {
		for second, b := range pairs {
			got += strconv.Itoa(first) + a + strconv.Itoa(second) + b + ";"
		}
	}
	if got != "1a b1a b;1a b3c;1a b4d e;3c1a b;3c3c;3c4d e;4d e1a b;4d e3c;4d e4d e;" {
		t.Errorf("Each within itself: %q", got)
	}
}

// 7.3: Unfold of Fold is the line alone; folded again, joined and read again, too.
func TestUnfoldOfFold(t *testing.T) {
	for _, s := range append(sample.Mixed(3000, 40, []string{"a", "bcd", " ", "\t", "\x00", "\xff", "\r."}), "", " ", "\t\t\t\t") {
		for width := -1; width < 40; width++ {
			l := lines.Fold(s, width)
			unfolded(t, l, s)
			told(t, lines.Join(append([]string{"first"}, append(l, "last")...)), eachWords(append([]string{"first"}, append(l, "last")...))...)
			if s != "" && !strings.HasPrefix(s, " ") && !strings.HasPrefix(s, "\t") {
				told(t, lines.Join(append([]string{"first"}, append(l, "last")...)), numbered{1, "first"}, numbered{2, s}, numbered{2 + len(l), "last"})
			}
		}
	}
}

// 7.3: Split of Join are lines without line feeds, of which none ends with a carriage return; Join of Split is a text whose lines end as Join's.
func TestSplitOfJoin(t *testing.T) {
	right, wrong := 0, 0
	for _, l := range append(lists(), []string{"a\rb", "\ra", "\r ", "\x00", ""}) {
		if slices.ContainsFunc(l, func(line string) bool { return strings.Contains(line, "\n") || strings.HasSuffix(line, "\r") }) {
			wrong++
			continue
		}
		split(t, lines.Join(l), l...)
		right++
	}
	if right < 15000 || wrong < 1000 {
		t.Errorf("%d lists are right, %d are not", right, wrong)
	}
	for _, s := range texts() {
		l := lines.Split(s)
		// Lines that were read come back, even those that end with a carriage return: Join sets another one.
		split(t, lines.Join(l), l...)
		if strings.HasSuffix(s, "\n") && strings.Count(s, "\n") == strings.Count(s, "\r\n") {
			joined(t, s, l...)
		}
	}
}

// What is handed in stays as it is, behind the list's end, too; what is handed out is nobody else's.
func TestListsOfTheirOwn(t *testing.T) {
	for _, l := range lists() {
		room := append(append(make([]string, 0, len(l)+4), l...), "x", " y")
		whole := slices.Clone(room)
		given := room[:len(l)]
		text, out := lines.Join(given), lines.Unfold(given)
		wanted := slices.Clone(out)
		for i := range out {
			out[i] = "z"
		}
		_ = append(out, " z")
		if !slices.Equal(room, whole) {
			t.Fatalf("behind Join and Unfold of %q: %q", l, room)
		}
		if again := lines.Unfold(given); !slices.Equal(again, wanted) || lines.Join(given) != text {
			t.Fatalf("Unfold(%q), once more: %q, not %q", l, again, wanted)
		}
		// What becomes of the list changes nothing of what was handed out.
		out = lines.Unfold(given)
		for i := range given {
			given[i] = " z"
		}
		if !slices.Equal(out, wanted) {
			t.Fatalf("Unfold(%q), when that is another: %q, not %q", l, out, wanted)
		}
	}
	for _, s := range []string{"", "a b c d e", "a\n b\nc\n", " \n"} {
		for _, call := range []func() []string{func() []string { return lines.Split(s) }, func() []string { return lines.Fold(s, 3) }} {
			once, wanted := call(), call()
			for i := range once {
				once[i] = "z"
			}
			_ = append(once, "z")
			if again := call(); !slices.Equal(again, wanted) {
				t.Errorf("%q, once more: %q, not %q", s, again, wanted)
			}
		}
	}
}

// P1: calls end, and none panics, at long texts and lists, too, in a time that is no burden; what is asked twice is answered the same.
func TestCallsEnd(t *testing.T) {
	const many = 1 << 16
	for _, c := range append(sample.Bytes(), "a ", "a\n", "\r\n", " a\n", "\t\r\n") {
		s := strings.Repeat(c, many)
		one, l := splitWords(c), lines.Split(s)
		if strings.HasSuffix(c, "\n") {
			one = slices.Repeat(one, many)
		} else {
			one = []string{s}
		}
		for range 2 {
			split(t, s, one...)
			joined(t, strings.Join(one, "\r\n")+"\r\n", one...)
		}
		for _, width := range []int{math.MinInt, 2, 75, many, math.MaxInt} {
			partedRight(t, s, width, lines.Fold(s, width))
		}
		// Either each goes behind the first one, or none does.
		want := []numbered{{1, strings.Join(l, "")}}
		if c[0] != ' ' && c[0] != '\t' {
			want = nil
			for i, line := range l {
				want = append(want, numbered{i + 1, line})
			}
		}
		for range 2 {
			told(t, s, want...)
			unfolded(t, l, linesOf(want)...)
		}
	}
}
