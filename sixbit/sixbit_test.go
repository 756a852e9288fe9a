package sixbit_test

import (
	"encoding/base64"
	"fmt"
	"math"
	"regexp"
	"slices"
	"strings"
	"testing"

	"cardcase/api"
	"cardcase/sample"
	"cardcase/sixbit"
)

// alphabet are the letters of 0 to 63.
const alphabet = "ABCDEFGHIJKLMNOPQRSTUVWXYZabcdefghijklmnopqrstuvwxyz0123456789+/"

// blanks are the bytes that Decode passes over.
const blanks = " \t\r\n"

// texts are those that are encoded: all of one and of two bytes, all short ones of bytes at the edges, longer ones of every size.
func texts() []string {
	l := append(sample.Texts("\x00\xff\x01\x80", 5), sample.Texts("a=\n", 6)...)
	l = append(l, sample.Texts(strings.Join(sample.Bytes(), ""), 2)...)
	l = append(l, sample.Mixed(3000, 60, sample.Bytes())...)
	for n := range 100 {
		l = append(l, strings.Repeat("a", n), strings.Repeat("\x00", n), strings.Repeat("\xff", n))
	}
	return l
}

// encodeWords is 5.1's Encode said once more, by bits in writing.
func encodeWords(s string) string {
	bits := sample.Bits(s)
	for len(bits)%6 != 0 {
		bits += "0"
	}
	out := ""
	for ; bits != ""; bits = bits[6:] {
		n := 0
		fmt.Sscanf(bits[:6], "%b", &n)
		out += alphabet[n : n+1]
	}
	for len(out)%4 != 0 {
		out += "="
	}
	return out
}

// What Decode passes over; all letters, in fours, in which nothing is wrong, but for the number of them and the last one's bits; letters whose last one has a bit set that is missing.
var (
	passed = regexp.MustCompile("[ \t\r\n]+")
	right  = regexp.MustCompile("\\A(?:[A-Za-z0-9+/]{4})*(?:[A-Za-z0-9+/]{0,3}|[A-Za-z0-9+/]{2}={1,2}|[A-Za-z0-9+/]{3}=)")
	bitSet = regexp.MustCompile("[^AQgw]==\\z|[^=AEIMQUYcgkosw048]=\\z")
)

func init() { right.Longest() }

// decodeWords is 5.1's Decode said once more.
func decodeWords(s string) (string, api.Errno) {
	s = passed.ReplaceAllString(s, "")
	good := right.FindString(s)
	if left := s[len(good):]; left != "" {
		whole := len(good) > 0 && len(good)%4 == 0
		if strings.IndexByte(alphabet+"=", left[0]) >= 0 && whole && strings.HasSuffix(good, "=") {
			return "", api.ErrMore
		}
		return "", api.ErrField
	}
	if len(s)%4 != 0 {
		return "", api.ErrShort
	}
	if bitSet.MatchString(s) {
		return "", api.ErrField
	}
	out, err := base64.StdEncoding.Strict().DecodeString(s)
	if err != nil {
		panic(err)
	}
	return string(out), api.OK
}

// encoded holds Encode against what it must answer.
func encoded(t *testing.T, s, want string) {
	t.Helper()
	if got := sixbit.Encode(s); got != want {
		t.Errorf("Encode(%q): %q, not %q", s, got, want)
	}
}

// decoded holds Decode against what it must answer.
func decoded(t *testing.T, s, want string, wantE api.Errno) {
	t.Helper()
	if got, e := sixbit.Decode(s); got != want || e != wantE {
		t.Errorf("Decode(%q): %q and %v, not %q and %v", s, got, e, want, wantE)
	}
}

// lined holds Lines against what they must be.
func lined(t *testing.T, s string, width int, want []string) {
	t.Helper()
	if got := slices.Collect(sixbit.Lines(s, width)); !slices.Equal(got, want) {
		t.Errorf("Lines(%q, %d): %q, not %q", s, width, got, want)
	}
}

// 5.1: Encode.
func TestEncode(t *testing.T) {
	for s, want := range map[string]string{
		"": "", "a": "YQ==", "aa": "YWE=", "aaa": "YWFh", "aaaa": "YWFhYQ==",
		"f": "Zg==", "fo": "Zm8=", "foo": "Zm9v", "foob": "Zm9vYg==", "fooba": "Zm9vYmE=", "foobar": "Zm9vYmFy", "foobarb": "Zm9vYmFyYg==",
		// 0 and 255 at each place
		"\x00": "AA==", "\x00\x00": "AAA=", "\x00\x00\x00": "AAAA", "\x00\x00\x00\x00": "AAAAAA==",
		"\xff": "/w==", "\xff\xff": "//8=", "\xff\xff\xff": "////", "\xff\xff\xff\xff": "/////w==",
		"\xff\x00\x00": "/wAA", "\x00\xff\x00": "AP8A", "\x00\x00\xff": "AAD/", "\xff\xff\x00": "//8A", "\xff\x00\xff": "/wD/", "\x00\xff\xff": "AP//",
		"\xff\x00": "/wA=", "\x00\xff": "AP8=",
		// the letters behind the digits, and their neighbours
		"\xf8": "+A==", "\xfb": "+w==", "\xfb\xef\xbe": "++++", "\xfb\xff": "+/8=", "\xf4": "9A==", "\x69\xa6\x9a": "aaaa", "\xd3\x4d\x34": "0000",
		// what Decode passes over, and =, are bytes as others are
		" ": "IA==", "\r\n": "DQo=", "\t": "CQ==", "=": "PQ==", "==": "PT0=", "YQ==": "WVE9PQ==", "\u00e9": "w6k=",
	} {
		encoded(t, s, want)
	}
}

// 5.1: every letter of 0 to 63, at each of the four places.
func TestEncodeEachLetter(t *testing.T) {
	for n := range 64 {
		letter := alphabet[n : n+1]
		encoded(t, string([]byte{byte(n << 2)}), letter+"A==")
		encoded(t, string([]byte{byte(n >> 4), byte(n << 4), 0}), "A"+letter+"AA")
		encoded(t, string([]byte{0, byte(n >> 2), byte(n << 6)}), "AA"+letter+"A")
		encoded(t, string([]byte{0, 0, byte(n)}), "AAA"+letter)
		encoded(t, string([]byte{byte(n<<2 | n>>4), byte(n<<4 | n>>2), byte(n<<6 | n)}), strings.Repeat(letter, 4))
	}
}

// 5.1: Encode of many texts.
func TestEncodeMany(t *testing.T) {
	for _, s := range texts() {
		encoded(t, s, encodeWords(s))
		encoded(t, s, base64.StdEncoding.EncodeToString([]byte(s)))
	}
}

// 5.1: Decode.
func TestDecode(t *testing.T) {
	for s, want := range map[string]string{
		"": "", "YQ==": "a", "YWE=": "aa", "YWFh": "aaa", "YWFhYQ==": "aaaa", "Zm9v": "foo", "Zm9vYg==": "foob", "Zm9vYmE=": "fooba", "Zm9vYmFy": "foobar",
		"AA==": "\x00", "AAA=": "\x00\x00", "AAAA": "\x00\x00\x00", "/w==": "\xff", "//8=": "\xff\xff", "////": "\xff\xff\xff", "/////w==": "\xff\xff\xff\xff",
		"/wAA": "\xff\x00\x00", "AP8A": "\x00\xff\x00", "AAD/": "\x00\x00\xff", "++++": "\xfb\xef\xbe", "+/8=": "\xfb\xff", "PT0=": "==",
		// bytes that are passed over, and nothing else
		" ": "", "\t": "", "\r": "", "\n": "", "\r\n": "", "\n\r\t ": "", " \t\r\n \t\r\n": "",
		// ahead of, within and behind four letters
		" YQ==": "a", "\tYQ==": "a", "\rYQ==": "a", "\nYQ==": "a", "Y Q==": "a", "YQ\t==": "a", "YQ=\r=": "a", "YQ==\n": "a", "YQ== \t\r\n": "a",
		" Y\tQ\r=\n=\r\n": "a", "YW\r\nE=": "aa", "YWE\n=\n": "aa", "Y\r\nW\r\nF\r\nh": "aaa", "YWFh\r\nYQ==\r\n": "aaaa", "YW FhY\tQ==": "aaaa",
		"\r\r\rYWFh   \n\n\nYWFh": "aaaaaa",
	} {
		decoded(t, s, want, api.OK)
	}
}

// 5.1: every letter of 0 to 63, at each of the four places, and no other byte than those, = and what is passed over.
func TestDecodeEachByte(t *testing.T) {
	for _, b := range sample.Bytes() {
		for _, row := range []string{"%AAA", "A%AA", "AA%A", "AAA%", "%A==", "A%==", "%AA=", "A%A=", "AA%=", "AA=%", "AA%", "%", "A%", "AAA%AAAA", "AAAA%", "AA==%", "AAA=%", "%%%%", "%AAAA%"} {
			s := strings.ReplaceAll(row, "%", b)
			want, e := decodeWords(s)
			decoded(t, s, want, e)
			// It stands in no other byte's way.
			if e == api.ErrField && !strings.Contains(alphabet+"="+blanks, b) {
				decoded(t, s+"AA==", "", api.ErrField)
			}
		}
	}
	for n := range 64 {
		letter := alphabet[n : n+1]
		decoded(t, letter+"A==", string([]byte{byte(n << 2)}), api.OK)
		decoded(t, "A"+letter+"AA", string([]byte{byte(n >> 4), byte(n << 4), 0}), api.OK)
		decoded(t, "AA"+letter+"A", string([]byte{0, byte(n >> 2), byte(n << 6)}), api.OK)
		decoded(t, "AAA"+letter, string([]byte{0, 0, byte(n)}), api.OK)
	}
}

// 5.1: what Decode takes nothing of. Fours ahead of it change nothing, nor do bytes that are passed over.
func TestDecodeErrors(t *testing.T) {
	for s, want := range map[string]api.Errno{
		// a byte that is no letter, at each place
		"!": api.ErrField, "!AAA": api.ErrField, "A!AA": api.ErrField, "AA!A": api.ErrField, "AAA!": api.ErrField, "AAAA!": api.ErrField,
		"AA!=": api.ErrField, "AA=!": api.ErrField, "AAA=!": api.ErrField, "AA==!": api.ErrField,
		// letters of other alphabets, and neighbours of these letters
		"-AAA": api.ErrField, "AAA_": api.ErrField, "A,AA": api.ErrField, "AA.A": api.ErrField, "AA*A": api.ErrField, "AAA@": api.ErrField,
		"AAA[": api.ErrField, "AAA`": api.ErrField, "AAA{": api.ErrField, "AAA:": api.ErrField, "AAA<": api.ErrField, "AAA>": api.ErrField,
		"AAA\x00": api.ErrField, "AAA\xff": api.ErrField, "AAA\x0b": api.ErrField, "AAA\x0c": api.ErrField, "\u00a0AAA": api.ErrField, "A\u2028A": api.ErrField,
		"\uff21AAA": api.ErrField, "\u00e9": api.ErrField,
		// = as the first and as the second
		"=": api.ErrField, "==": api.ErrField, "===": api.ErrField, "====": api.ErrField, "=AAA": api.ErrField, "A=": api.ErrField, "A==": api.ErrField,
		"A===": api.ErrField, "A=AA": api.ErrField, "A=A=": api.ErrField,
		// a letter behind =
		"AA=A": api.ErrField, "AQ=Q": api.ErrField, "AA=AAAAA": api.ErrField, "AA=A=": api.ErrField,
		// a letter, an = behind four letters of which the last one is =
		"AA==A": api.ErrMore, "AA===": api.ErrMore, "AA====": api.ErrMore, "AA==AA==": api.ErrMore, "AA==AAAA": api.ErrMore, "AAA=A": api.ErrMore,
		"AAA==": api.ErrMore, "AAA=AAA=": api.ErrMore, "AAA=AAAA": api.ErrMore, "YQ==YQ==": api.ErrMore, "AA==A=": api.ErrMore,
		// one, two and three in the end
		"A": api.ErrShort, "AA": api.ErrShort, "AAA": api.ErrShort, "AA=": api.ErrShort, "YQ": api.ErrShort, "YQ=": api.ErrShort, "/": api.ErrShort,
		// a last letter with a bit set that is missing, with one = and with two
		"AB==": api.ErrField, "AC==": api.ErrField, "AE==": api.ErrField, "AI==": api.ErrField, "YR==": api.ErrField, "A/==": api.ErrField, "AP==": api.ErrField,
		"AAB=": api.ErrField, "AAC=": api.ErrField, "AAD=": api.ErrField, "YWF=": api.ErrField, "AA/=": api.ErrField,
		// two of them: the first letter that is wrong
		"A!A=": api.ErrField, "AA==A!": api.ErrMore, "AA==!A": api.ErrField, "AA==!=": api.ErrField, "AA===!": api.ErrMore,
		"A=A!": api.ErrField, "=AA==A": api.ErrField, "AA===A": api.ErrMore, "!AA==A": api.ErrField, "AA=AAA==A": api.ErrField,
		// a letter that is wrong ahead of too few, and that of bits that are missing
		"AAA=AA": api.ErrMore, "AA!": api.ErrField, "AAA!A": api.ErrField, "A=A": api.ErrField, "AR==A": api.ErrMore, "AR===": api.ErrMore, "AR==!": api.ErrField,
		"YR==YQ==": api.ErrMore, "YQ==YR==": api.ErrMore, "AAB==": api.ErrMore, "AAB=AR==": api.ErrMore, "AR=A": api.ErrField,
		// too few ahead of bits that are missing
		"AR=": api.ErrShort, "AR": api.ErrShort, "AAB": api.ErrShort, "A/=": api.ErrShort,
	} {
		for _, head := range []string{"", "AAAA", "YWFhYWFh", "////", "++++AAAA", " ", "\r\n", "YW Fh\t"} {
			decoded(t, head+s, "", want)
			for _, blank := range strings.Split(blanks, "") {
				decoded(t, head+strings.Join(strings.SplitAfter(s, ""), blank), "", want)
				decoded(t, head+s+blank, "", want)
			}
		}
	}
}

// 5.1: each two letters ahead of two =, and each three ahead of one.
func TestDecodeMissingBits(t *testing.T) {
	for a := range 64 {
		for b := range 64 {
			ab := string([]byte{alphabet[a], alphabet[b]})
			if b%16 == 0 {
				decoded(t, ab+"==", string([]byte{byte(a<<2 | b>>4)}), api.OK)
			} else {
				decoded(t, ab+"==", "", api.ErrField)
				decoded(t, "AAAA"+ab+"==", "", api.ErrField)
			}
			for c := range 64 {
				s := ab + alphabet[c:c+1] + "="
				if c%4 == 0 {
					decoded(t, s, string([]byte{byte(a<<2 | b>>4), byte(b<<4 | c>>2)}), api.OK)
				} else {
					decoded(t, s, "", api.ErrField)
				}
			}
		}
	}
}

// 5.1: Decode of many texts, right ones and wrong ones.
func TestDecodeMany(t *testing.T) {
	l := append(sample.Texts("AR=! ", 7), sample.Texts("Aw=", 10)...)
	l = append(l, sample.Texts("A=\n", 9)...)
	l = append(l, sample.Mixed(20000, 10, []string{"AAAA", "YWFh", "YQ==", "YWE=", "YR==", "=", "A", "/", "\r\n", " ", "!", "\xff"})...)
	l = append(l, sample.Mixed(20000, 20, append(strings.Split(alphabet, ""), strings.Split(blanks, "")...))...)
	for i, s := range sample.Mixed(20000, 12, []string{"AAAA", "YW Fh", "++//", "\r\n", "\t", "z z0\n9"}) {
		l = append(l, s+[]string{"", "YQ==", "YW E=", "YQ=", "YR==", "YWF=", "Y Q = =\r\n", "YQ==\n!"}[i%8])
	}
	count := map[api.Errno]int{}
	for _, s := range append(l, sample.Mixed(3000, 10, sample.Bytes())...) {
		want, e := decodeWords(s)
		decoded(t, s, want, e)
		count[e]++
	}
	for _, e := range []api.Errno{api.OK, api.ErrField, api.ErrMore, api.ErrShort} {
		if count[e] < 5000 {
			t.Errorf("%d texts of %v", count[e], e)
		}
	}
}

// 5.2: Lines.
func TestLines(t *testing.T) {
	for _, row := range []struct {
		s     string
		width int
		want  []string
	}{
		{"", 4, nil}, {"", 1, nil}, {"", 0, nil}, {"", -1, nil}, {"", math.MaxInt, nil}, {"", math.MinInt, nil},
		{"a", 1, []string{"a"}}, {"a", 2, []string{"a"}}, {"a", 0, []string{"a"}}, {"abc", 1, []string{"a", "b", "c"}},
		// a width below 1
		{"abc", 0, []string{"a", "b", "c"}}, {"abc", -1, []string{"a", "b", "c"}}, {"abc", -3, []string{"a", "b", "c"}},
		{"abc", math.MinInt, []string{"a", "b", "c"}}, {"abc", math.MinInt + 1, []string{"a", "b", "c"}}, {"abc", -1 << 32, []string{"a", "b", "c"}},
		// the text's size, one fewer and one more, and ones far too great
		{"abcd", 3, []string{"abc", "d"}}, {"abcd", 4, []string{"abcd"}}, {"abcd", 5, []string{"abcd"}}, {"abcd", 2, []string{"ab", "cd"}},
		{"abcd", math.MaxInt, []string{"abcd"}}, {"abcd", math.MaxInt - 1, []string{"abcd"}}, {"abcd", 1 << 32, []string{"abcd"}}, {"abcd", 1<<32 + 1, []string{"abcd"}},
		{"abcde", 2, []string{"ab", "cd", "e"}}, {"abcdef", 3, []string{"abc", "def"}}, {"YWFhYQ==", 6, []string{"YWFhYQ", "=="}},
		// bytes as they are, whatever they are
		{"a\r\nb ", 2, []string{"a\r", "\nb", " "}}, {"\u00e9\u00e9", 1, []string{"\xc3", "\xa9", "\xc3", "\xa9"}}, {"\x00\xff\x00", 2, []string{"\x00\xff", "\x00"}},
		{"    ", 3, []string{"   ", " "}}, {"====", 3, []string{"===", "="}},
	} {
		lined(t, row.s, row.width, row.want)
	}
}

// 5.2: texts of every size, in lines of every width.
func TestLinesSizes(t *testing.T) {
	all := strings.Join(sample.Bytes(), "")
	for size := range len(all) + 1 {
		for width := -2; width <= size+2; width++ {
			lines := slices.Collect(sixbit.Lines(all[:size], width))
			if strings.Join(lines, "") != all[:size] {
				t.Errorf("Lines of %d bytes by %d: %q", size, width, lines)
			}
			for i, line := range lines {
				if last := i == len(lines)-1; line == "" || len(line) > max(width, 1) || !last && len(line) != max(width, 1) {
					t.Errorf("Lines of %d bytes by %d: %q as line %d", size, width, line, i)
				}
			}
		}
	}
}

// 5.2: lines that are left early tell nothing more, and tell all again when they are gone through again.
func TestLinesLeftEarly(t *testing.T) {
	all := []string{"abc", "def", "ghi", "j"}
	lines := sixbit.Lines("abcdefghij", 3)
	for stop := 1; stop <= len(all); stop++ {
		var got []string
		lines(func(line string) bool {
			got = append(got, line)
			return len(got) < stop
		})
		if !slices.Equal(got, all[:stop]) {
			t.Errorf("Lines, left at %d: %q", stop, got)
		}
		for line := range lines {
			if line != "abc" {
				t.Errorf("Lines, behind a break at %d: %q first", stop, line)
			}
			break
		}
		if again := slices.Collect(lines); !slices.Equal(again, all) {
			t.Errorf("Lines, behind a break at %d: %q", stop, again)
		}
	}
}

// 5.2: lines gone through within themselves don't get in one another's way.
func TestLinesWithinThemselves(t *testing.T) {
	got := ""
	lines := sixbit.Lines("abcde", 2)
	for a := range lines {
		for b := range lines {
			got += a + b + " "
		}
	}
	if got != "abab abcd abe cdab cdcd cde eab ecd ee " {
		t.Errorf("Lines within themselves: %q", got)
	}
}

// 5.3: Decode is of what Encode wrote what it wrote.
func TestDecodeOfEncode(t *testing.T) {
	for _, s := range texts() {
		decoded(t, sixbit.Encode(s), s, api.OK)
		decoded(t, sixbit.Encode(sixbit.Encode(s)), sixbit.Encode(s), api.OK)
	}
}

// 5.3: also in lines, of any width, whatever of what is passed over stands between them.
func TestDecodeOfLines(t *testing.T) {
	l := append(sample.Mixed(60, 90, sample.Bytes()), "", "a", "aa", "aaa", "aaaa", blanks, strings.Join(sample.Bytes(), ""), strings.Repeat("\xff", 100))
	for _, s := range l {
		letters := sixbit.Encode(s)
		for width := -1; width <= len(letters)+1; width++ {
			lines := slices.Collect(sixbit.Lines(letters, width))
			for _, end := range []string{"\r\n", "\n", "\r", " ", "\t", "\r\n ", ""} {
				decoded(t, strings.Join(lines, end), s, api.OK)
				decoded(t, end+strings.Join(lines, end)+end, s, api.OK)
			}
		}
	}
}

// P1: calls end, and none panics, at long texts, too; what is asked twice is answered the same.
func TestCallsEnd(t *testing.T) {
	for _, c := range append(sample.Bytes(), "YWFh", "YQ==", "A\r\n") {
		s := strings.Repeat(c, 1<<14)
		once := sixbit.Encode(s)
		if once != sixbit.Encode(s) {
			t.Errorf("Encode of many %q", c)
		}
		if back, e := sixbit.Decode(once); back != s || e != api.OK {
			t.Errorf("Decode of Encode of many %q: %v", c, e)
		}
		want, wantE := decodeWords(s)
		for range 2 {
			if back, e := sixbit.Decode(s); back != want || e != wantE {
				t.Errorf("Decode of many %q: %d bytes and %v, not %d and %v", c, len(back), e, len(want), wantE)
			}
		}
		for _, width := range []int{0, 1, 76, math.MaxInt} {
			size := 0
			for line := range sixbit.Lines(s, width) {
				size += len(line)
			}
			if size != len(s) {
				t.Errorf("Lines of many %q by %d: %d bytes", c, width, size)
			}
		}
	}
}
