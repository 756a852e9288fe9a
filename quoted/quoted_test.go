package quoted_test

import (
	"fmt"
	"math"
	"regexp"
	"strings"
	"testing"

	"cardcase/api"
	"cardcase/quoted"
	"cardcase/sample"
)

// ink are the bytes from 33 to 126 that are no =.
const ink = "!\"#$%&'()*+,-./0123456789:;<>?@ABCDEFGHIJKLMNOPQRSTUVWXYZ[\\]^_`abcdefghijklmnopqrstuvwxyz{|}~"

// edges are the bytes around which it changes what is plain.
const edges = "\x00\x08\x09\x0a\x0b\x0d\x1f\x20\x21\x3c\x3d\x3e\x7e\x7f\x80\xff"

// letters are what stands for a byte that is not plain.
func letters(b byte) string { return fmt.Sprintf("=%02X", b) }

// texts are those that are encoded: all of one and of two bytes, all short ones of bytes at the edges, longer ones.
func texts() []string {
	l := append(sample.Texts(edges, 3), sample.Texts("a \t=\x00", 6)...)
	l = append(l, sample.Texts(strings.Join(sample.Bytes(), ""), 2)...)
	l = append(l, sample.Mixed(3000, 60, sample.Bytes())...)
	l = append(l, sample.Mixed(3000, 60, strings.Split("ab \t=\xff\x00", ""))...)
	for n := range 220 {
		l = append(l, strings.Repeat("a", n), strings.Repeat("=", n), strings.Repeat(" ", n))
	}
	return l
}

// encodeWords is 4.1's Encode said once more.
func encodeWords(s string) string {
	out := ""
	for i, last := 0, len(s)-1; i <= last; i++ {
		if strings.IndexByte(ink, s[i]) >= 0 || i < last && strings.IndexByte(" \t", s[i]) >= 0 {
			out += s[i : i+1]
		} else {
			out += letters(s[i])
		}
	}
	return out
}

// units are the bytes of what Encode wrote, each byte's letters together.
func units(s string) []string {
	var l []string
	for s != "" {
		n := 1
		if s[0] == '=' {
			n = 3
		}
		l, s = append(l, s[:n]), s[n:]
	}
	return l
}

// softWords is 4.2's Soft of what Encode wrote said once more: as many units a line as there is room for.
func softWords(s string, width int) string {
	out, left, l := "", len(s), units(s)
	for left > width {
		line := ""
		for len(line)+len(l[0]) < width {
			line, l = line+l[0], l[1:]
		}
		out, left = out+line+"=\r\n", left-len(line)
	}
	return out + strings.Join(l, "")
}

// What Decode takes, a mark that is cut, what Encode writes, and what Decode turns into something else, as patterns.
var (
	said  = regexp.MustCompile("\\A(?:[\t -<>-~]|=\r\n|=[0-9A-Fa-f]{2})*")
	cut   = regexp.MustCompile("\\A=(?:[0-9A-Fa-f]|\r)?\\z")
	wrote = regexp.MustCompile("\\A(?:(?:[\t -<>-~]|=(?:0[0-8A-F]|1[0-9A-F]|3D|7F|[89A-F][0-9A-F]))*" +
		"(?:[!-<>-~]|=(?:0[0-9A-F]|1[0-9A-F]|20|3D|7F|[89A-F][0-9A-F])))?\\z")
	marks = regexp.MustCompile("=(?:\r\n|..)")
)

// decodeWords is 4.2's Decode said once more.
func decodeWords(s string) (string, api.Errno) {
	left := strings.TrimPrefix(s, said.FindString(s))
	if cut.MatchString(left) {
		return "", api.ErrShort
	}
	if left != "" {
		return "", api.ErrField
	}
	return marks.ReplaceAllStringFunc(s, func(m string) string {
		if m == "=\r\n" {
			return ""
		}
		var b byte
		fmt.Sscanf(m[1:], "%x", &b)
		return string([]byte{b})
	}), api.OK
}

// encoded holds Encode and Plain against what they must answer.
func encoded(t *testing.T, s, want string) {
	t.Helper()
	if got := quoted.Encode(s); got != want {
		t.Errorf("Encode(%q): %q, not %q", s, got, want)
	}
	if got := quoted.Plain(s); got != (want == s) {
		t.Errorf("Plain(%q): %v", s, got)
	}
}

// softened holds Soft against what it must answer.
func softened(t *testing.T, s string, width int, want string, wantE api.Errno) {
	t.Helper()
	if got, e := quoted.Soft(s, width); got != want || e != wantE {
		t.Errorf("Soft(%q, %d): %q and %v, not %q and %v", s, width, got, e, want, wantE)
	}
}

// decoded holds Decode against what it must answer.
func decoded(t *testing.T, s, want string, wantE api.Errno) {
	t.Helper()
	if got, e := quoted.Decode(s); got != want || e != wantE {
		t.Errorf("Decode(%q): %q and %v, not %q and %v", s, got, e, want, wantE)
	}
}

// 4.1: Encode and Plain.
func TestEncode(t *testing.T) {
	for s, want := range map[string]string{
		"": "", "a": "a", "abc": "abc", "a=b ": "a=3Db=20", "=": "=3D", "==": "=3D=3D", "=3D": "=3D3D", "~!<>": "~!<>", "0:;/@_.": "0:;/@_.",
		// blanks and tabs: at the end, and with a byte behind, whatever that is
		" ": "=20", "\t": "=09", "a ": "a=20", "a\t": "a=09", " a": " a", "\ta": "\ta", "a b": "a b", "a\tb": "a\tb",
		"  ": " =20", "\t\t": "\t=09", " \t": " =09", "\t ": "\t=20", "a  b  ": "a  b =20", "   ": "  =20",
		" =": " =3D", " \x00": " =00", "\t\xff": "\t=FF", " \r\n": " =0D=0A", "a \nb": "a =0Ab", "a\t\r\n b": "a\t=0D=0A b",
		// others
		"\x00": "=00", "\n": "=0A", "\r": "=0D", "\r\n": "=0D=0A", "=\r\n": "=3D=0D=0A", "\x1f": "=1F", "\x7f": "=7F", "\x80": "=80",
		"\xff": "=FF", "\xab\xcd\xef": "=AB=CD=EF", "\u00e9t\u00e9": "=C3=A9t=C3=A9", "\u00a0": "=C2=A0", "\u2028a": "=E2=80=A8a",
	} {
		encoded(t, s, want)
	}
}

// 4.1: each byte alone, at the end, and with a byte behind it.
func TestEncodeEachByte(t *testing.T) {
	for n := range 256 {
		b := string([]byte{byte(n)})
		inside, last := letters(byte(n)), letters(byte(n))
		if strings.Contains(ink, b) {
			inside, last = b, b
		} else if n == 9 || n == 32 {
			inside = b
		}
		encoded(t, b, last)
		encoded(t, "a"+b, "a"+last)
		encoded(t, b+"a", inside+"a")
		encoded(t, b+b, inside+last)
		encoded(t, b+" ", inside+"=20")
		encoded(t, b+"\x00", inside+"=00")
	}
}

// 4.1: Encode and Plain of many texts.
func TestEncodeMany(t *testing.T) {
	plain, other := 0, 0
	for _, s := range texts() {
		encoded(t, s, encodeWords(s))
		if quoted.Plain(s) {
			plain++
		} else {
			other++
		}
	}
	if plain == 0 || other == 0 {
		t.Errorf("%d texts are plain, %d are not", plain, other)
	}
}

// 4.2: Soft.
func TestSoft(t *testing.T) {
	for _, row := range []struct {
		s     string
		width int
		want  string
	}{
		{"", 4, ""}, {"", 200, ""}, {"a", 4, "a"}, {"aaaa", 4, "aaaa"}, {"aaaaa", 4, "aaa=\r\naa"}, {"aaaaaa", 4, "aaa=\r\naaa"},
		{"aaaaaaa", 4, "aaa=\r\naaaa"}, {"aaaaaaaa", 4, "aaa=\r\naaa=\r\naa"}, {"aaaaaa", 5, "aaaa=\r\naa"}, {"aaaaaa", 6, "aaaaaa"},
		// a byte's letters ahead of a line's end, at it, one and two places before it, and behind it
		{"=3D", 4, "=3D"}, {"=3Da", 4, "=3Da"}, {"=3Dab", 4, "=3D=\r\nab"}, {"a=3Db", 4, "a=\r\n=3Db"}, {"ab=3D", 4, "ab=\r\n=3D"},
		{"abc=3D", 4, "abc=\r\n=3D"}, {"=3D=3D", 4, "=3D=\r\n=3D"}, {"a=3D=3D", 4, "a=\r\n=3D=\r\n=3D"}, {"ab=3D=3D", 5, "ab=\r\n=3D=\r\n=3D"},
		{"a=3Dbc", 5, "a=3D=\r\nbc"}, {"=3D=3D", 5, "=3D=\r\n=3D"}, {"=3D=3D", 6, "=3D=3D"}, {"=3D=3Da", 6, "=3D=\r\n=3Da"},
		{"=00=FF=20", 7, "=00=FF=\r\n=20"}, {"a=00=FF=20", 8, "a=00=FF=\r\n=20"}, {"ab=00=FF=20", 8, "ab=00=\r\n=FF=20"},
		// digits behind letters are bytes of their own
		{"=3D3D3D", 4, "=3D=\r\n3D3D"}, {"=3D3D3D", 5, "=3D3=\r\nD3D"},
		// a blank or a tab may stand at a line's end
		{"aa aaa", 4, "aa =\r\naaa"}, {"a\t\taaa", 4, "a\t\t=\r\naaa"}, {"    =20", 4, "   =\r\n =20"}, {"aaa a=20", 5, "aaa =\r\na=20"},
	} {
		softened(t, row.s, row.width, row.want, api.OK)
	}
}

// 4.2: texts around each line's length, with bytes of one letter and of three at every place, in lines of every width.
func TestSoftLengths(t *testing.T) {
	for width := 4; width <= 200; width++ {
		for _, size := range []int{0, 1, width - 4, width - 3, width - 2, width - 1, width, width + 1, width + 2, 2*width - 3, 2*width - 2, 2*width - 1, 2 * width, 2*width + 1} {
			softened(t, strings.Repeat("a", size), width, softWords(strings.Repeat("a", size), width), api.OK)
			for place := max(0, width-8); place <= width+2 && place+3 <= size; place++ {
				s := strings.Repeat("a", place) + "=3D" + strings.Repeat("b", size-place-3)
				softened(t, s, width, softWords(s, width), api.OK)
			}
		}
		for size := range width {
			s := strings.Repeat("a", size%4) + strings.Repeat("=FF", size) + strings.Repeat("b", size%3)
			softened(t, s, width, softWords(s, width), api.OK)
		}
	}
}

// 4.2: Soft of many texts; its lines are no longer than they may be, and no shorter than they must be.
func TestSoftMany(t *testing.T) {
	for i, of := range texts() {
		s := encodeWords(of)
		for _, width := range []int{4, 5, 6, 7 + i%70, 199, 200} {
			softened(t, s, width, softWords(s, width), api.OK)
			lines := strings.SplitAfter(softWords(s, width), "\r\n")
			for j, line := range lines {
				if size := len(strings.TrimSuffix(line, "\r\n")); size > width || j < len(lines)-1 && size < width-2 {
					t.Errorf("Soft(%q, %d): a line of %d bytes", s, width, size)
				}
			}
		}
	}
}

// 4.2: widths that may not be; that comes ahead of what is wrong with the text.
func TestSoftWidths(t *testing.T) {
	for _, s := range []string{"", "a", "aaaaaa", "=3D", "=3d", "=", " ", "\xff", strings.Repeat("a", 300)} {
		for _, width := range []int{3, 2, 1, 0, -1, -4, -200, 201, 202, 256 + 100, 1<<16 + 4, 1<<32 + 4, math.MaxInt, math.MinInt, math.MinInt + 4} {
			softened(t, s, width, "", api.ErrRange)
		}
	}
	for _, width := range []int{4, 5, 76, 199, 200} {
		softened(t, "abc", width, "abc", api.OK)
	}
}

// 4.2: what Encode does not make of anything is put in no lines, though Decode may take it.
func TestSoftNotEncoded(t *testing.T) {
	for _, s := range []string{
		// letters of bytes that are plain, or small ones
		"=41", "=21", "=7E", "=3C", "=3E", "=30", "=3d", "=ff", "=Ff", "=fF", "=0a", "aaaa=61",
		// blanks and tabs as letters with a byte behind, and as they are at the end
		"=20a", "=09a", "=20=20", "=09=20", "=20=00", "a=20b", " ", "\t", "a ", "a\t", "=3D ", "=20 ", "aaaaaaaa ", "  ",
		// lines
		"=\r\n", "a=\r\nb", "aaa=\r\naaa", "=3D=\r\n", "=\r\n=3D", "\r\n", "a\r\nb",
		// bytes that Encode writes as letters, and marks that are cut or wrong
		"\x00", "\n", "\r", "\x1f", "\x7f", "\x80", "\xff", "a\x00b", "aaaaaaaa\xff", "\u00e9", "=", "a=", "=4", "=3", "=\r", "==", "=3D=", "=g0", "=0g",
		"=3G", "=-1", "= 1", "=4g", "=3\x00", "aaaa=3", "aaaaaaaa=", "=3=3D", "=x3D",
	} {
		for _, width := range []int{4, 5, 6, 199, 200} {
			softened(t, s, width, "", api.ErrField)
			long := strings.Repeat("a", 100) + "=3D" + strings.Repeat("b", 100)
			softened(t, long+s, width, "", api.ErrField)
		}
	}
}

// 4.2: Soft takes just what Encode writes, of many texts.
func TestSoftTakesEncodedAlone(t *testing.T) {
	l := sample.Mixed(20000, 8, []string{"a", "0", " ", "\t", "=3D", "=00", "=20", "=09", "=FF", "=41", "=3d", "=\r\n", "=", "\xff"})
	for _, b := range sample.Bytes() {
		l = append(l, b, b+"a", "a"+b, letters(b[0]), letters(b[0])+"a", "=3D"+letters(b[0]), strings.ToLower(letters(b[0])))
	}
	l = append(l, sample.Mixed(20000, 30, []string{"a", "0", " ", "\t", "=3D", "=00", "=FF", "=C3=A9"})...)
	right, wrong := 0, 0
	for i, s := range append(l, sample.Texts("=0Dd \n", 6)...) {
		width := 4 + i%197
		if wrote.MatchString(s) {
			right++
			softened(t, s, width, softWords(s, width), api.OK)
		} else {
			wrong++
			softened(t, s, width, "", api.ErrField)
		}
	}
	if right < 10000 || wrong < 10000 {
		t.Errorf("%d texts are Encode's, %d are not", right, wrong)
	}
}

// 4.2: Decode.
func TestDecode(t *testing.T) {
	for s, want := range map[string]string{
		"": "", "a": "a", "abc": "abc", ink: ink, "a=3Db=20": "a=b ", "=41": "A", "=00=ff=FF": "\x00\xff\xff", "=3d=3D": "==",
		"=aB=Cd=eF": "\xab\xcd\xef", "=AA=aa": "\xaa\xaa", "=0a=0A=0d=0D": "\n\n\r\r", "=3D3D": "=3D", "=3D=33=44": "=3D", "=C3=a9": "\u00e9",
		// blanks and tabs, also at the end
		" ": " ", "\t": "\t", "a ": "a ", " a\t": " a\t", "a \t ": "a \t ", "=20 ": "  ",
		// lines
		"=\r\n": "", "a=\r\nb": "ab", "a=\r\n": "a", "=\r\nb": "b", "=\r\n=\r\n=\r\n": "", "aaa=\r\naaa": "aaaaaa", "a =\r\n b": "a  b",
		"=3D=\r\n=3D": "==", "=\r\n3D": "3D", "=0D=0A=\r\n=0A": "\r\n\n", "aa=\r\n =\r\n": "aa ",
	} {
		decoded(t, s, want, api.OK)
	}
}

// 4.2: what Decode takes nothing of. What stands ahead changes nothing, nor what stands behind, be it a mark that is cut.
func TestDecodeErrors(t *testing.T) {
	for s, want := range map[string]api.Errno{
		// a text that ends behind =, behind = and a digit, behind = and a carriage return
		"=": api.ErrShort, "=4": api.ErrShort, "=0": api.ErrShort, "=9": api.ErrShort, "=A": api.ErrShort, "=F": api.ErrShort,
		"=a": api.ErrShort, "=f": api.ErrShort, "=\r": api.ErrShort, "=3D=": api.ErrShort, "=\r\n=": api.ErrShort, "=3D=\r": api.ErrShort,
		"=3D=3": api.ErrShort,
		// = and a byte that is no digit, behind it or behind a digit
		"=g": api.ErrField, "=G": api.ErrField, "=/": api.ErrField, "=:": api.ErrField, "=@": api.ErrField, "=`": api.ErrField, "= ": api.ErrField,
		"=\n": api.ErrField, "=\t": api.ErrField, "=\x00": api.ErrField, "=\xff": api.ErrField, "=4g": api.ErrField, "=4G": api.ErrField,
		"=g4": api.ErrField, "=4/": api.ErrField, "=4:": api.ErrField, "=4@": api.ErrField, "=4`": api.ErrField, "=4 ": api.ErrField,
		"=4=": api.ErrField, "=4\r": api.ErrField, "=4\n": api.ErrField, "=4\x00": api.ErrField, "=4\xff": api.ErrField, "=x41": api.ErrField,
		"==": api.ErrField, "==4": api.ErrField, "===": api.ErrField, "==3D": api.ErrField, "=-1": api.ErrField, "=+1": api.ErrField,
		// a line's end that is none
		"=\r\r": api.ErrField, "=\ra": api.ErrField, "=\r4": api.ErrField, "=\r=": api.ErrField, "=\n\r": api.ErrField, "=\r \n": api.ErrField,
		"= \r\n": api.ErrField, "=\r\x00": api.ErrField,
		// bytes that are not to stand there
		"\r": api.ErrField, "\n": api.ErrField, "\r\n": api.ErrField, "\ra": api.ErrField, "\x00": api.ErrField, "\x01": api.ErrField,
		"\x08": api.ErrField, "\x0b": api.ErrField, "\x1f": api.ErrField, "\x7f": api.ErrField, "\x80": api.ErrField, "\xff": api.ErrField,
		"\u00e9": api.ErrField, "\r\n=": api.ErrField,
		// digits of other scripts, and letters whose capitals stand among these
		"=\u0131": api.ErrField, "=\u017f": api.ErrField, "=4\u0131": api.ErrField, "=\u0660": api.ErrField, "=\uff11\uff11": api.ErrField,
	} {
		for _, head := range []string{"", "a", "abc ", "=3D", "a=\r\n", "\t"} {
			decoded(t, head+s, "", want)
			if want == api.ErrShort {
				continue
			}
			for _, tail := range []string{"=", "=4", "=f", "=\r", "=\r\n", "\x00", ""} {
				decoded(t, head+s+"zz=3D"+tail, "", api.ErrField)
			}
		}
	}
}

// 4.2: a mark with each two bytes behind it, and with each one; each byte alone.
func TestDecodeEachMark(t *testing.T) {
	for _, a := range sample.Bytes() {
		want, e := decodeWords(a)
		decoded(t, a, want, e)
		want, e = decodeWords("=" + a)
		decoded(t, "="+a, want, e)
		for _, b := range sample.Bytes() {
			want, e := decodeWords("=" + a + b)
			decoded(t, "="+a+b, want, e)
		}
	}
}

// 4.2: Decode of many texts, right ones and wrong ones.
func TestDecodeMany(t *testing.T) {
	l := append(sample.Texts("=0aF\r\n ", 5), sample.Texts("=4g\r\n", 6)...)
	l = append(l, sample.Mixed(20000, 10, []string{"a", "Z", " ", "\t", "=3D", "=3d", "=00", "=\r\n", "=", "=4", "\r", "\n", "\x7f", "\xff"})...)
	l = append(l, sample.Mixed(20000, 30, []string{"a", "Z", " ", "\t", "=3D", "=3d", "=00", "=fF", "=\r\n"})...)
	right, wrong := 0, 0
	for _, s := range append(l, sample.Mixed(3000, 10, sample.Bytes())...) {
		want, e := decodeWords(s)
		decoded(t, s, want, e)
		if e == api.OK {
			right++
		} else {
			wrong++
		}
	}
	if right < 10000 || wrong < 10000 {
		t.Errorf("%d texts are right, %d are wrong", right, wrong)
	}
}

// 4.3: Decode is of what Encode wrote what it wrote.
func TestDecodeOfEncode(t *testing.T) {
	for _, s := range texts() {
		decoded(t, quoted.Encode(s), s, api.OK)
		decoded(t, quoted.Encode(quoted.Encode(s)), quoted.Encode(s), api.OK)
	}
}

// 4.3: also of what Soft made of that, with any width.
func TestDecodeOfSoft(t *testing.T) {
	l := append(sample.Mixed(300, 300, sample.Bytes()), sample.Mixed(300, 300, strings.Split("ab \t=", ""))...)
	for _, s := range append(l, "", " ", strings.Join(sample.Bytes(), ""), strings.Repeat("=", 500), strings.Repeat("a", 500)) {
		for width := 4; width <= 200; width++ {
			soft, e := quoted.Soft(quoted.Encode(s), width)
			if e != api.OK {
				t.Errorf("Soft(Encode(%q), %d): %v", s, width, e)
			}
			decoded(t, soft, s, api.OK)
		}
	}
}

// P1: calls end, and none panics, at long texts, too; what is asked twice is answered the same.
func TestCallsEnd(t *testing.T) {
	for _, c := range append(sample.Bytes(), "=3D", "=\r\n", "a=", "=4") {
		s := strings.Repeat(c, 1<<15)
		once := quoted.Encode(s)
		if once != quoted.Encode(s) || quoted.Plain(s) != (once == s) {
			t.Errorf("Encode and Plain of many %q", c)
		}
		if back, e := quoted.Decode(once); back != s || e != api.OK {
			t.Errorf("Decode of Encode of many %q: %v", c, e)
		}
		for _, width := range []int{4, 200, math.MaxInt} {
			for _, text := range []string{s, once} {
				soft, e := quoted.Soft(text, width)
				again, e2 := quoted.Soft(text, width)
				if soft != again || e != e2 || e != api.OK && soft != "" {
					t.Errorf("Soft of many %q: %d bytes and %v, then %d and %v", c, len(soft), e, len(again), e2)
				}
			}
		}
		back, e := quoted.Decode(s)
		if want, wantE := decodeWords(s); back != want || e != wantE {
			t.Errorf("Decode of many %q: %d bytes and %v, not %d and %v", c, len(back), e, len(want), wantE)
		}
	}
}
