package parts_test

import (
	"math"
	"regexp"
	"slices"
	"strconv"
	"strings"
	"testing"

	"cardcase/api"
	"cardcase/parts"
	"cardcase/sample"
)

// pieces are what texts that are gone through in many tests are made of.
var pieces = []string{";", ";", `\;`, `\;`, `\\`, `\\`, `\`, "a", "bc", "d e", "\x00", "\n", "\r", "\xff", "\xc3\xa9"}

// rightPieces are those of values in which nothing is wrong.
var rightPieces = []string{";", ";", `\;`, `\\`, "a", "bc", "d e", "\x00", "\n", "\r", "\xff", "\xc3\xa9"}

// texts are those that are parted.
func texts() []string {
	l := append(sample.Texts(`a;\`, 8), sample.Texts("a;\\\x00\xff\n", 5)...)
	l = append(l, sample.Texts(strings.Join(sample.Bytes(), ""), 2)...)
	l = append(l, sample.Mixed(20000, 30, pieces)...)
	l = append(l, sample.Mixed(20000, 30, rightPieces)...)
	return append(l, sample.Mixed(3000, 60, sample.Bytes())...)
}

// lists are lists of parts, empty ones and ones with ; and backslashes at every place.
func lists() [][]string {
	l := [][]string{nil, {}, sample.Bytes(), pieces}
	short := sample.Texts(`a;\`, 3)
	for _, a := range short {
		l = append(l, []string{a}, []string{a, a, a})
		for _, b := range short {
			l = append(l, []string{a, b}, []string{"", a, b}, []string{a, "x", b, ""})
		}
	}
	for _, a := range sample.Texts(`a;\`, 5) {
		l = append(l, []string{a}, []string{a, "", a})
	}
	for size := range 40 {
		l = append(l, make([]string, size), sample.Mixed(size, size, pieces), sample.Mixed(size, 9, sample.Bytes()))
	}
	return l
}

// special is a byte of a part that has a backslash ahead of it where the part is written.
var special = regexp.MustCompile(`[;\\]`)

// joinWords is 9.1's Join said once more.
func joinWords(l []string) string {
	written := make([]string, len(l))
	for i, part := range l {
		written[i] = special.ReplaceAllString(part, `\$0`)
	}
	return strings.Join(written, ";")
}

// What stands at the beginning of a value, or of what is left of it, as patterns.
var (
	allRight = regexp.MustCompile(`\A(?s:[^\\]|\\[;\\])*`)
	partHere = regexp.MustCompile(`\A(?s:[^;\\]|\\[;\\])*`)
	withMark = regexp.MustCompile(`\\([;\\])`)
)

// faultWords is 9.1's place of what is wrong, said once more; the text's length, if nothing is.
func faultWords(s string) int { return len(allRight.FindString(s)) }

// eachWords is 9.1's Each said once more.
func eachWords(s string) []string {
	var l []string
	for {
		written := partHere.FindString(s)
		behind := s[len(written):]
		if behind != "" && behind[0] != ';' {
			return l
		}
		l = append(l, withMark.ReplaceAllString(written, "$1"))
		if behind == "" {
			return l
		}
		s = behind[1:]
	}
}

// each gathers parts as far as there are any, up to stop of them.
func each(one func(func(string) bool), stop int) []string {
	var l []string
	one(func(part string) bool {
		l = append(l, part)
		return len(l) < stop
	})
	return l
}

// brief is a list of parts as errors tell it: how many they are, and the first ones.
func brief(l []string) string {
	s := strconv.Itoa(len(l)) + ":"
	for _, part := range l[:min(len(l), 9)] {
		s += " " + strconv.Quote(part[:min(len(part), 99)])
	}
	return s
}

// joined holds Join against what it must answer, and Split of that.
func joined(t *testing.T, want string, l ...string) {
	t.Helper()
	got := parts.Join(l)
	if got != want {
		t.Errorf("Join(%s): %.300q, not %.300q", brief(l), got, want)
	}
	if len(l) > 0 {
		split(t, got, l...)
	}
}

// split holds Split against what it must answer where nothing is wrong, and Each of the same text; what is told, joined, is the text.
func split(t *testing.T, s string, want ...string) {
	t.Helper()
	got, at, e := parts.Split(s)
	if !slices.Equal(got, want) || at != 0 || e != api.OK {
		t.Errorf("Split(%.300q): %s, %d and %v, not %s", s, brief(got), at, e, brief(want))
	}
	if back := parts.Join(got); back != s {
		t.Errorf("Join of Split(%.300q): %.300q", s, back)
	}
	told(t, s, want...)
}

// refused holds Split against an error, and Each against the parts that come ahead of what is wrong.
func refused(t *testing.T, s string, wantAt int, ahead ...string) {
	t.Helper()
	if got, at, e := parts.Split(s); len(got) != 0 || at != wantAt || e != api.ErrField {
		t.Errorf("Split(%.300q): %s, %d and %v, not an error at %d", s, brief(got), at, e, wantAt)
	}
	told(t, s, ahead...)
}

// told holds Each against what it must tell.
func told(t *testing.T, s string, want ...string) {
	t.Helper()
	if got := each(parts.Each(s), math.MaxInt); !slices.Equal(got, want) {
		t.Errorf("Each(%.300q): %s, not %s", s, brief(got), brief(want))
	}
}

// 9.1: Join.
func TestJoin(t *testing.T) {
	joined(t, `a\;b;c`, "a;b", "c")
	// of no part, of one, of empty ones
	joined(t, "")
	joined(t, "", []string{}...)
	joined(t, "a", "a")
	joined(t, "abc def", "abc def")
	joined(t, "", "")
	joined(t, ";", "", "")
	joined(t, ";;", "", "", "")
	joined(t, ";;;", "", "", "", "")
	joined(t, ";a", "", "a")
	joined(t, "a;", "a", "")
	joined(t, "a;;b", "a", "", "b")
	joined(t, ";a;;;b;", "", "a", "", "", "b", "")
	joined(t, "Doe;John;Q.;Dr.;", "Doe", "John", "Q.", "Dr.", "")
	// ; first, in the middle, last, alone, and several behind one another
	joined(t, `\;`, ";")
	joined(t, `\;a`, ";a")
	joined(t, `a\;b`, "a;b")
	joined(t, `a\;`, "a;")
	joined(t, `\;\;`, ";;")
	joined(t, `a\;\;\;b`, "a;;;b")
	joined(t, `\;;\;`, ";", ";")
	joined(t, `a\;;b;\;c`, "a;", "b", ";c")
	joined(t, `;\;;`, "", ";", "")
	// backslashes at the same places
	joined(t, `\\`, `\`)
	joined(t, `\\a`, `\a`)
	joined(t, `a\\b`, `a\b`)
	joined(t, `a\\`, `a\`)
	joined(t, `\\\\`, `\\`)
	joined(t, `a\\\\\\b`, `a\\\b`)
	joined(t, `\\;\\`, `\`, `\`)
	joined(t, `a\\;b;\\c`, `a\`, "b", `\c`)
	joined(t, `;\\;`, "", `\`, "")
	// both
	joined(t, `\\\;`, `\;`)
	joined(t, `\;\\`, `;\`)
	joined(t, `\\\\\;`, `\\;`)
	joined(t, `\\;\;`, `\`, ";")
	joined(t, `\;;\\`, ";", `\`)
	joined(t, `a\;b\\c;\\\;d`, `a;b\c`, `\;d`)
	// other bytes stay as they are: those that have a backslash elsewhere, those that no text has, and those that are no right letters
	joined(t, `n:,/"' ;N=`, `n:,/"' `, "N=")
	joined(t, "\x00;\n;\r\n;\t", "\x00", "\n", "\r\n", "\t")
	joined(t, "\xff;\xc3\\;\xa9;\xed\xa0\x80\\\\", "\xff", "\xc3;\xa9", "\xed\xa0\x80\\")
	joined(t, "é；＼;ż", "é；＼", "ż")
	for _, b := range sample.Bytes() {
		want := b
		if b == ";" || b == `\` {
			want = `\` + b
		}
		joined(t, want, b)
		joined(t, "a"+want+"c;"+want+want+";"+want+"d", "a"+b+"c", b+b, b+"d")
	}
}

// 9.1: Split, and Each, where nothing is wrong.
func TestSplit(t *testing.T) {
	split(t, "", "")
	split(t, "a", "a")
	split(t, "a;b", "a", "b")
	split(t, "a;b;c", "a", "b", "c")
	// ; alone, first, last, and two behind one another
	split(t, ";", "", "")
	split(t, ";a", "", "a")
	split(t, "a;", "a", "")
	split(t, "a;;b", "a", "", "b")
	split(t, ";;", "", "", "")
	split(t, ";;a", "", "", "a")
	split(t, "a;;", "a", "", "")
	split(t, ";a;", "", "a", "")
	split(t, ";;;", "", "", "", "")
	// a backslash ahead of ; and ahead of a backslash
	split(t, `\;`, ";")
	split(t, `\\`, `\`)
	split(t, `a\;b;c`, "a;b", "c")
	split(t, `a\\b;c`, `a\b`, "c")
	split(t, `\;a`, ";a")
	split(t, `\\a`, `\a`)
	split(t, `a\;`, "a;")
	split(t, `a\\`, `a\`)
	split(t, `;\;`, "", ";")
	split(t, `\;;`, ";", "")
	split(t, `;\\`, "", `\`)
	// two, three and four backslashes, ahead of ; and at the end
	split(t, `\\;`, `\`, "")
	split(t, `\\\;`, `\;`)
	split(t, `\\\\;`, `\\`, "")
	split(t, `\\\\\;`, `\\;`)
	split(t, `a\\;b`, `a\`, "b")
	split(t, `a\\\;b`, `a\;b`)
	split(t, `a\\\\;b`, `a\\`, "b")
	split(t, `\\\\`, `\\`)
	split(t, `a;b\\`, "a", `b\`)
	split(t, `a;b\\\\`, "a", `b\\`)
	// what looks like an end elsewhere is none here, and bytes that no writer makes are as others are
	split(t, "a,b\n;c\r\n\x00", "a,b\n", "c\r\n\x00")
	split(t, "\x00;\x00", "\x00", "\x00")
	split(t, "\xff;\xc3\\;\xa9;\\\\\xed\xa0\x80", "\xff", "\xc3;\xa9", "\\\xed\xa0\x80")
	split(t, "；；＼；;\u037e", "；；＼；", "\u037e")
}

// 9.1: the place of what is wrong, and what Each tells ahead of it.
func TestSplitWrong(t *testing.T) {
	refused(t, `a\`, 1)
	// a backslash as the last byte, and ahead of another byte
	refused(t, `\`, 0)
	refused(t, `\a`, 0)
	refused(t, `a\b`, 1)
	refused(t, `ab\n`, 2)
	refused(t, `ab\,c`, 2)
	refused(t, `\ ;`, 0)
	refused(t, `\/;a`, 0)
	// behind two or four of them, and behind one with ;
	refused(t, `\\\`, 2)
	refused(t, `\\\\\`, 4)
	refused(t, `\\\a`, 2)
	refused(t, `\\\\\a`, 4)
	refused(t, `\;\`, 2)
	refused(t, `\;\a`, 2)
	refused(t, `a\\\;\`, 5)
	refused(t, `\\a\`, 3)
	// in the first part, in a later one, and in the last
	refused(t, `a\b;c;d`, 1)
	refused(t, `\a;c;d`, 0)
	refused(t, `a;b\c;d`, 3, "a")
	refused(t, `a;b;\c;d`, 4, "a", "b")
	refused(t, `a;b;c\d`, 5, "a", "b")
	refused(t, `a;b;cd\`, 6, "a", "b")
	refused(t, `a;b;\`, 4, "a", "b")
	refused(t, `;\`, 1, "")
	refused(t, `;;\x`, 2, "", "")
	refused(t, `;\x;`, 1, "")
	refused(t, `a\;b;\\;c\d;e`, 9, "a;b", `\`)
	refused(t, `a\\;b\`, 5, `a\`)
	// of several the first
	refused(t, `\a\b`, 0)
	refused(t, `a\b\c\`, 1)
	refused(t, `a;\b;\c;\`, 2, "a")
	refused(t, `a;b\\\c;\;\d`, 5, "a")
	refused(t, `a;b;\c\`, 4, "a", "b")
	// a byte behind the backslash that no writer makes
	refused(t, "\\\x00", 0)
	refused(t, "a;\\\n;b", 2, "a")
	refused(t, "a;b\\\r\n", 3, "a")
	refused(t, "\xff;\\\xff", 2, "\xff")
	refused(t, "\xc3\\\xa9", 1)
	refused(t, "\\；", 0)
	refused(t, "é;\\＼", 3, "é")
	for _, b := range sample.Bytes() {
		if b == ";" || b == `\` {
			continue
		}
		refused(t, `\`+b, 0)
		refused(t, `a;;\`+b+`;c`, 3, "a", "")
		refused(t, b+`\\;`+b+`\`+b, 5, b+`\`)
	}
}

// 9.1: Split and Each of many texts.
func TestSplitMany(t *testing.T) {
	right, wrong := 0, 0
	for _, s := range texts() {
		want := eachWords(s)
		if at := faultWords(s); at < len(s) {
			refused(t, s, at, want...)
			wrong++
		} else {
			split(t, s, want...)
			right++
		}
	}
	if right < 10000 || wrong < 10000 {
		t.Errorf("%d texts are right, %d are wrong", right, wrong)
	}
}

// 9.1 and 9.2: Join of many lists, and Split of that.
func TestJoinMany(t *testing.T) {
	for _, l := range lists() {
		joined(t, joinWords(l), l...)
	}
	for _, s := range texts() {
		l := eachWords(s)
		joined(t, joinWords(l), l...)
	}
}

// 9.1: Each, as far as one likes: left behind each part, and at none; and gone through twice, and within itself.
func TestEachLeft(t *testing.T) {
	for _, s := range []string{"", "a", "a;b", ";", `a\;b;c;\\;;d`, `\`, `a;\`, `a;b;c\d;e`, "a;b;c;d;e;f;g;h"} {
		all := eachWords(s)
		one := parts.Each(s)
		for range 2 {
			for stop := 1; stop <= len(all)+1; stop++ {
				if got := each(one, stop); !slices.Equal(got, all[:min(stop, len(all))]) {
					t.Errorf("Each(%q), left behind %d: %q", s, stop, got)
				}
			}
			if got := slices.Collect(one); !slices.Equal(got, all) {
				t.Errorf("Each(%q), once more: %q, not %q", s, got, all)
			}
		}
		for range one {
			for part := range one {
				if part != all[0] {
					t.Errorf("Each(%q) within itself: %q first, not %q", s, part, all[0])
				}
				break
			}
		}
	}
}

// 9.1: Each looks at no more of a text than is asked for: the first part comes at once, however many are behind.
func TestEachTakesNoMore(t *testing.T) {
	s := strings.Repeat("a;", 1<<16)
	times := testing.AllocsPerRun(9, func() {
		for part := range parts.Each(s) {
			if part != "a" {
				t.Errorf("%q is first", part)
			}
			break
		}
	})
	if times > 99 {
		t.Errorf("%v times room is taken for the first part", times)
	}
}

// What is handed in stays as it is, behind the list's end, too; what is handed out is nobody else's.
func TestListsOfTheirOwn(t *testing.T) {
	room := []string{"a;b", `c\`, "", "behind", "more"}
	l := room[:3]
	for range 2 {
		if got := parts.Join(l); got != `a\;b;c\\;` || !slices.Equal(room, []string{"a;b", `c\`, "", "behind", "more"}) {
			t.Errorf("Join: %q, and %q is left", got, room)
		}
	}
	const s = `a\;b;c\\;`
	got, _, _ := parts.Split(s)
	again, _, _ := parts.Split(s)
	for i := range got {
		got[i] = "spoilt"
	}
	_ = append(got, "spoilt")
	if !slices.Equal(again, l) {
		t.Errorf("Split, when another is spoilt: %q", again)
	}
	_ = append(again[:1], "spoilt")
	split(t, s, l...)
}

// 9.2: Split of Join are the parts, where there is one at least; of none it is the empty one.
func TestSplitOfJoin(t *testing.T) {
	for _, l := range lists() {
		want := l
		if len(l) == 0 {
			want = []string{""}
		}
		if got, at, e := parts.Split(parts.Join(l)); !slices.Equal(got, want) || at != 0 || e != api.OK {
			t.Errorf("Split of Join(%q): %q, %d and %v", l, got, at, e)
		}
	}
}

// P1: calls end, and none panics, at texts and lists that are far too long.
func TestCallsEnd(t *testing.T) {
	const many = 1 << 20
	split(t, strings.Repeat(";", many), make([]string, many+1)...)
	split(t, strings.Repeat("\xff", many), strings.Repeat("\xff", many))
	split(t, strings.Repeat(`\;`, many), strings.Repeat(";", many))
	split(t, strings.Repeat(`\`, 2*many), strings.Repeat(`\`, many))
	refused(t, strings.Repeat(`\`, 2*many+1), 2*many)
	refused(t, strings.Repeat(`\`, 2*many+1)+"a", 2*many)
	refused(t, strings.Repeat("\x00\n\r", many)+`\`, 3*many)
	empty := make([]string, many)
	refused(t, strings.Repeat(";", many)+`\;`+strings.Repeat(";", many)+`\`, 2*many+2, slices.Concat(empty, []string{";"}, empty[1:])...)
	joined(t, strings.Repeat("a;", many-1)+"a", slices.Repeat([]string{"a"}, many)...)
	joined(t, strings.Repeat(`\;`, many)+";"+strings.Repeat(`\\`, many), strings.Repeat(";", many), strings.Repeat(`\`, many))
	for _, b := range sample.Bytes() {
		if special.MatchString(b) {
			continue
		}
		s := strings.Repeat(b, 1<<16)
		joined(t, s+";"+s, s, s)
		refused(t, s+";"+s+`\`+s, 2<<16+1, s)
	}
}
