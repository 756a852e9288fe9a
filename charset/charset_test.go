package charset_test

import (
	"fmt"
	"math"
	"math/rand"
	"slices"
	"strconv"
	"strings"
	"testing"

	"cardcase/api"
	"cardcase/charset"
	"cardcase/sample"
)

// names are the charsets' names.
var names = map[int]string{charset.Ascii: "US-ASCII", charset.Latin: "ISO-8859-1", charset.Utf8: "UTF-8"}

// none are numbers of which there is no charset.
var none = []int{0, -1, -2, -3, 4, 5, 6, 10, 16, 255, 256, 257, 1<<8 + 3, 1<<16 + 1, 1 << 32, 1<<32 + 1, 1<<32 + 2, 1<<32 + 3, -1 << 32, 1 - 1<<32, math.MaxInt, math.MaxInt - 1, math.MinInt, math.MinInt + 1, math.MinInt + 3}

// edges are the letters at which something changes, and their neighbours.
var edges = []rune{0, 1, 'A', 0x7e, 0x7f, 0x80, 0x81, 0xbf, 0xc0, 0xfe, 0xff, 0x100, 0x101, 0x7fe, 0x7ff, 0x800, 0x801, 0xfff, 0x1000, 0xcfff, 0xd000, 0xd7fe, 0xd7ff, 0xe000, 0xe001, 0xfeff, 0xfffc, 0xfffd, 0xfffe, 0xffff, 0x10000, 0x10001, 0x3ffff, 0x40000, 0xfffff, 0x100000, 0x10fffe, 0x10ffff}

// wrong are texts that are not right from their first byte on, whatever stands behind them, but for those that only break off.
var wrong = []string{
	// bytes that only go on, as the first of a letter
	"\x80", "\x81", "\xbf", "\xa9", "\x80\x80", "\xbf\xbf\xbf",
	// forms that are longer than the shortest: of two, three and four bytes
	"\xc0\x80", "\xc0\xaf", "\xc1\x81", "\xc1\xbf", "\xe0\x80\x80", "\xe0\x80\xaf", "\xe0\x81\xbf", "\xe0\x82\x80", "\xe0\x83\xa9", "\xe0\x9f\xbf",
	"\xf0\x80\x80\x80", "\xf0\x80\x80\xaf", "\xf0\x80\x83\xa9", "\xf0\x82\x82\xac", "\xf0\x8d\x9f\xbf", "\xf0\x8e\x80\x80", "\xf0\x8f\xbf\xbf",
	// d800 to dfff
	"\xed\xa0\x80", "\xed\xa0\x81", "\xed\xaf\xbf", "\xed\xb0\x80", "\xed\xbf\xbf", "\xed\xa0\x80\xed\xb0\x80", "\xed\xa1\x8c\xed\xbe\xb4",
	// above 10ffff
	"\xf4\x90\x80\x80", "\xf4\x90\x80\x81", "\xf4\xbf\xbf\xbf", "\xf5\x80\x80\x80", "\xf7\xbf\xbf\xbf",
	// forms of five and six bytes, and bytes of no letter
	"\xf8\x88\x80\x80\x80", "\xf8\x80\x80\x80\x80", "\xfb\xbf\xbf\xbf\xbf", "\xfc\x84\x80\x80\x80\x80", "\xfd\xbf\xbf\xbf\xbf\xbf", "\xf5", "\xf6", "\xf7", "\xf8", "\xf9", "\xfa", "\xfb", "\xfc", "\xfd", "\xfe", "\xff", "\xfe\xff", "\xff\xfe", "\xfe\x80\x80\x80\x80\x80\x80",
	// a byte that begins a letter where one should go on
	"\xc3\xc3\xa9", "\xc3\xe2\x82\xac", "\xe2\xc3\xa9", "\xe2\x82\xc3\xa9", "\xe2\xe2\x82\xac", "\xf0\xf0\x9f\x98\x80", "\xf0\x9f\xc3\xa9", "\xf0\x9f\x98\xc3\xa9", "\xf0\x9f\x98\xf0\x9f\x98\x80",
	// another byte where one should go on
	"\xc3A", "\xc3\x00", "\xc3\x7f", "\xc3\x29", "\xe2A\xac", "\xe2\x82A", "\xe2\x82\x00", "\xf0A\x98\x80", "\xf0\x9fA\x80", "\xf0\x9f\x98A", "\xf0\x9f\x98\x7f",
}

// shapes are how letters of one to four bytes look in bits (RFC 3629, 3), and the least letter of each: below it a shape of fewer bytes is the right one.
var shapes = []struct {
	bits  string
	least rune
}{{"0xxxxxxx", 0}, {"110xxxxx10xxxxxx", 0x80}, {"1110xxxx10xxxxxx10xxxxxx", 0x800}, {"11110xxx10xxxxxx10xxxxxx10xxxxxx", 0x10000}}

// fits tells the bits that stand where a shape has an x, if all others are as the shape has them.
func fits(bits, shape string) (string, bool) {
	said := ""
	for i := range len(shape) {
		if shape[i] == 'x' {
			said += bits[i : i+1]
		} else if bits[i] != shape[i] {
			return "", false
		}
	}
	return said, true
}

// first is a text's first letter and how many bytes it has, by the shapes; no bytes, if none stands there.
func first(s string) (rune, int) {
	for i, shape := range shapes {
		size := i + 1
		if size > len(s) {
			break
		}
		said, ok := fits(sample.Bits(s[:size]), shape.bits)
		if !ok {
			continue
		}
		n, err := strconv.ParseInt(said, 2, 32)
		if err != nil {
			panic(err)
		}
		letter := rune(n)
		if letter < shape.least || letter > 0x10ffff || letter >= 0xd800 && letter <= 0xdfff {
			return 0, 0
		}
		return letter, size
	}
	return 0, 0
}

// lettersWords are 6.2's Letters and Valid said once more.
func lettersWords(s string) ([]rune, bool) {
	var l []rune
	for s != "" {
		letter, size := first(s)
		if size == 0 {
			return l, false
		}
		l = append(l, letter)
		s = s[size:]
	}
	return l, true
}

// bytesOf are a letter's bytes, by the shapes.
func bytesOf(letter rune) string {
	i := len(shapes) - 1
	for letter < shapes[i].least {
		i--
	}
	shape := shapes[i].bits
	bits := fmt.Sprintf("%0*b", strings.Count(shape, "x"), letter)
	for _, bit := range bits {
		shape = strings.Replace(shape, "x", string(bit), 1)
	}
	s := ""
	for ; shape != ""; shape = shape[8:] {
		n, err := strconv.ParseUint(shape[:8], 2, 8)
		if err != nil {
			panic(err)
		}
		s += string([]byte{byte(n)})
	}
	return s
}

// decodeWords is 6.3's Decode said once more.
func decodeWords(kind int, b string) (string, api.Errno) {
	if names[kind] == "" {
		return "", api.ErrKind
	}
	if kind == charset.Utf8 {
		if _, right := lettersWords(b); !right {
			return "", api.ErrCharset
		}
		return b, api.OK
	}
	s := ""
	for i := range len(b) {
		if kind == charset.Ascii && b[i] > 127 {
			return "", api.ErrCharset
		}
		s += bytesOf(rune(b[i]))
	}
	return s, api.OK
}

// encodeWords is 6.3's Encode said once more.
func encodeWords(kind int, s string) (string, api.Errno) {
	if names[kind] == "" {
		return "", api.ErrKind
	}
	l, right := lettersWords(s)
	if !right {
		return "", api.ErrField
	}
	if kind == charset.Utf8 {
		return s, api.OK
	}
	most := map[int]rune{charset.Ascii: 127, charset.Latin: 255}[kind]
	b := ""
	for _, letter := range l {
		if letter > most {
			return "", api.ErrCharset
		}
		b += string([]byte{byte(letter)})
	}
	return b, api.OK
}

// decoded holds Decode against what it must answer.
func decoded(t *testing.T, kind int, b, want string, wantE api.Errno) {
	t.Helper()
	if got, e := charset.Decode(kind, b); got != want || e != wantE {
		t.Errorf("Decode(%d, %q): %q and %v, not %q and %v", kind, b, got, e, want, wantE)
	}
}

// encoded holds Encode against what it must answer.
func encoded(t *testing.T, kind int, s, want string, wantE api.Errno) {
	t.Helper()
	if got, e := charset.Encode(kind, s); got != want || e != wantE {
		t.Errorf("Encode(%d, %q): %q and %v, not %q and %v", kind, s, got, e, want, wantE)
	}
}

// least holds Least against what it must answer.
func least(t *testing.T, s string, want int) {
	t.Helper()
	if got := charset.Least(s); got != want {
		t.Errorf("Least(%q): %d, not %d", s, got, want)
	}
}

// lettered holds Letters and Valid against what they must answer.
func lettered(t *testing.T, s string, want []rune, right bool) {
	t.Helper()
	if got := slices.Collect(charset.Letters(s)); !slices.Equal(got, want) {
		t.Errorf("Letters(%q): %x, not %x", s, got, want)
	}
	if charset.Valid(s) != right {
		t.Errorf("Valid(%q): %v", s, !right)
	}
}

// allHeld holds all calls at a text against what is said once more of them.
func allHeld(t *testing.T, s string) {
	t.Helper()
	l, right := lettersWords(s)
	lettered(t, s, l, right)
	wantLeast := charset.None
	for _, kind := range []int{charset.Utf8, charset.Latin, charset.Ascii} {
		want, wantE := decodeWords(kind, s)
		decoded(t, kind, s, want, wantE)
		want, wantE = encodeWords(kind, s)
		encoded(t, kind, s, want, wantE)
		if wantE == api.OK {
			wantLeast = kind
		}
	}
	least(t, s, wantLeast)
}

// The charsets' numbers.
func TestKinds(t *testing.T) {
	if got := []int{charset.None, charset.Ascii, charset.Latin, charset.Utf8}; !slices.Equal(got, []int{0, 1, 2, 3}) {
		t.Errorf("charsets: %d", got)
	}
}

// 6.1: names, whichever of their letters are small.
func TestNamed(t *testing.T) {
	for kind, name := range names {
		mixed := []string{""}
		for i := range len(name) {
			var next []string
			for _, s := range mixed {
				next = append(next, s+name[i:i+1])
				if small := strings.ToLower(name[i : i+1]); small != name[i:i+1] {
					next = append(next, s+small)
				}
			}
			mixed = next
		}
		if !slices.Contains(mixed, strings.ToLower(name)) || !slices.Contains(mixed, name) {
			t.Fatalf("mixed: %q", mixed)
		}
		for _, s := range mixed {
			if got := charset.Named(s); got != kind {
				t.Errorf("Named(%q): %d, not %d", s, got, kind)
			}
		}
	}
}

// 6.1: every byte in each place of a name, and in between.
func TestNamedEachByte(t *testing.T) {
	for kind, name := range names {
		for i := range len(name) {
			for _, b := range sample.Bytes() {
				want := charset.None
				if b == name[i:i+1] || b == strings.ToLower(name[i:i+1]) {
					want = kind
				}
				if s := name[:i] + b + name[i+1:]; charset.Named(s) != want {
					t.Errorf("Named(%q): %d, not %d", s, charset.Named(s), want)
				}
			}
		}
		for i := range len(name) + 1 {
			for _, b := range sample.Bytes() {
				for _, s := range []string{name[:i] + b + name[i:], strings.ToLower(name[:i] + b + name[i:])} {
					if got := charset.Named(s); got != charset.None {
						t.Errorf("Named(%q): %d", s, got)
					}
				}
			}
		}
	}
}

// 6.1: what is no name.
func TestNamedNone(t *testing.T) {
	l := []string{"", " ", "-", "\x00", "None", "0", "1", "2", "3", "ASCII", "US", "US-", "USASCII", "US_ASCII", "US ASCII", "US--ASCII", "UK-ASCII", "LATIN1", "LATIN-1", "ISO-8859", "ISO-8859-", "ISO-8859-2", "ISO-8859-10", "ISO-8859-15", "ISO8859-1", "ISO_8859-1", "ISO 8859-1", "UTF8", "UTF_8", "UTF 8", "UTF-", "UTF-7", "UTF-16", "UTF-80", "UTF-8,UTF-8", "UTF-8 US-ASCII", "US-ASCIIUTF-8", "\"UTF-8\"", "CP1252", "ANSI_X3.4-1968", "\xff", "UTF-8\xff", "\xc3UTF-8",
		// letters of other alphabets that look so, or of which capitals or small ones are A to Z
		"U\u017f-ASCII", "u\u017f-ascii", "US-A\u017fCII", "US-ASC\u0131I", "US-ASCI\u0131", "US-ASC\u0130I", "us-asc\u0130i", "\u0131so-8859-1", "\u0130SO-8859-1", "I\u017fO-8859-1", "is\u03bf-8859-1", "IS\u041e-8859-1", "U\u0422F-8", "\u03c5tf-8", "UTF\u20108", "UTF\u22128", "UTF-\uff18", "\uff35\uff34\uff26-8", "\uff35TF-8", "US-\u0410SCII", "US-AS\u0421II", "ISO-8859-\u00b9", "ISO-8859-\u0661", "UTF-8\u200b", "\ufeffUTF-8", "U\u0301TF-8", "\u00a0UTF-8", "UTF-8\u00a0"}
	for _, name := range names {
		for _, s := range []string{name, strings.ToLower(name)} {
			l = append(l, s[1:], s[:len(s)-1], s[:1], s+s[len(s)-1:], s[:1]+s, s+s, " "+s, s+" ", "\t"+s, s+"\n", s+"\x00", strings.ReplaceAll(s, "-", ""), strings.ReplaceAll(s, "-", "_"), strings.ReplaceAll(s, "-", " "), strings.ReplaceAll(s, "-", "--"))
		}
	}
	for _, s := range l {
		if got := charset.Named(s); got != charset.None {
			t.Errorf("Named(%q): %d", s, got)
		}
	}
}

// 6.1: the name of each number.
func TestName(t *testing.T) {
	for kind, want := range map[int]string{1: "US-ASCII", 2: "ISO-8859-1", 3: "UTF-8"} {
		if got := charset.Name(kind); got != want {
			t.Errorf("Name(%d): %q, not %q", kind, got, want)
		}
		if got := charset.Named(charset.Name(kind)); got != kind {
			t.Errorf("Named of Name(%d): %d", kind, got)
		}
	}
	for _, kind := range none {
		if got := charset.Name(kind); got != "" {
			t.Errorf("Name(%d): %q", kind, got)
		}
	}
	for kind := -300; kind <= 300; kind++ {
		if got := charset.Name(kind); got != names[kind] {
			t.Errorf("Name(%d): %q", kind, got)
		}
	}
}

// 6.2: right texts.
func TestLetters(t *testing.T) {
	for s, want := range map[string][]rune{
		"": nil, "a": {'a'}, "\x00": {0}, "\x7f": {0x7f}, "\xc2\x80": {0x80}, "\xc3\xbf": {0xff}, "\xc4\x80": {0x100}, "\xdf\xbf": {0x7ff}, "\xe0\xa0\x80": {0x800}, "\xe2\x82\xac": {0x20ac},
		"\xed\x9f\xbf": {0xd7ff}, "\xee\x80\x80": {0xe000}, "\xef\xbf\xbf": {0xffff}, "\xf0\x90\x80\x80": {0x10000}, "\xf4\x8f\xbf\xbf": {0x10ffff},
		// the letter that often stands for what is not right, and the mark of bytes' order, are letters as others are
		"\xef\xbf\xbd": {0xfffd}, "\xef\xbf\xbda": {0xfffd, 'a'}, "a\xef\xbf\xbd\xef\xbf\xbd": {'a', 0xfffd, 0xfffd}, "\xef\xbb\xbf": {0xfeff}, "\xef\xbb\xbfa": {0xfeff, 'a'}, "\xef\xbf\xbe": {0xfffe},
		"e\xcc\x81": {'e', 0x301}, "\r\n\x00\t": {'\r', '\n', 0, '\t'}, "a\xc3\xa9\xe2\x82\xac\xf0\x9f\x98\x80z": {'a', 0xe9, 0x20ac, 0x1f600, 'z'}, "\xf0\x9f\x98\x80\xe2\x82\xac\xc3\xa9a": {0x1f600, 0x20ac, 0xe9, 'a'},
	} {
		lettered(t, s, want, true)
	}
}

// 6.2: the letters at the edges, alone, first, in the middle and last, and each beside each.
func TestLettersEdges(t *testing.T) {
	for _, a := range edges {
		s := bytesOf(a)
		lettered(t, s, []rune{a}, true)
		lettered(t, s+"bc", []rune{a, 'b', 'c'}, true)
		lettered(t, "b"+s+"c", []rune{'b', a, 'c'}, true)
		lettered(t, "bc"+s, []rune{'b', 'c', a}, true)
		lettered(t, s+s+s, []rune{a, a, a}, true)
		for _, b := range edges {
			lettered(t, s+bytesOf(b), []rune{a, b}, true)
			lettered(t, bytesOf(b)+s+bytesOf(b), []rune{b, a, b}, true)
		}
	}
}

// 6.2: texts that are not right: their letters are those ahead of what is not.
func TestLettersWrong(t *testing.T) {
	for _, s := range wrong {
		for _, head := range []string{"", "a", "\x00", "\xc3\xa9", "\xe2\x82\xac", "\xf0\x9f\x98\x80", "\xef\xbf\xbd", "a\xc3\xa9\xe2\x82\xac\xf0\x9f\x98\x80z"} {
			l, right := lettersWords(head)
			if !right {
				t.Fatalf("head %q", head)
			}
			for _, tail := range []string{"", "a", "ab", "\xc3\xa9", "\xf0\x9f\x98\x80", "\xef\xbf\xbd", "\xff"} {
				lettered(t, head+s+tail, l, false)
			}
		}
	}
}

// 6.2: texts that break off within a letter, at each place, and go on with another letter there.
func TestLettersBrokenOff(t *testing.T) {
	for _, letter := range edges {
		whole := bytesOf(letter)
		for size := 1; size < len(whole); size++ {
			lettered(t, whole[:size], nil, false)
			lettered(t, "a"+whole[:size], []rune{'a'}, false)
			lettered(t, whole+whole[:size], []rune{letter}, false)
			lettered(t, whole[:size]+whole, nil, false)
			lettered(t, whole[:size]+"a", nil, false)
			lettered(t, "\xc3\xa9"+whole[:size]+"\xc3\xa9", []rune{0xe9}, false)
			// the same letter without its beginning
			lettered(t, whole[size:], nil, false)
			lettered(t, "b"+whole[size:], []rune{'b'}, false)
			lettered(t, whole+whole[size:], []rune{letter}, false)
		}
	}
}

// 6.2 and 6.3: every letter, and each of d800 to dfff, which are none.
func TestEveryLetter(t *testing.T) {
	for letter := rune(0); letter <= 0x10ffff; letter++ {
		if letter >= 0xd800 && letter <= 0xdfff {
			s := string([]byte{0xed, byte(0x80 | letter>>6&0x3f), byte(0x80 | letter&0x3f)})
			lettered(t, s, nil, false)
			decoded(t, charset.Utf8, s, "", api.ErrCharset)
			encoded(t, charset.Utf8, s, "", api.ErrField)
			least(t, s, charset.None)
			continue
		}
		s := string(letter)
		if got := slices.Collect(charset.Letters(s)); len(got) != 1 || got[0] != letter || !charset.Valid(s) {
			t.Errorf("Letters(%q): %x", s, got)
		}
		for kind, most := range map[int]rune{charset.Ascii: 0x7f, charset.Latin: 0xff} {
			if letter <= most {
				encoded(t, kind, s, string([]byte{byte(letter)}), api.OK)
			} else if letter < 0x3000 || letter&0xff < 2 || letter&0xffff > 0xfff0 {
				encoded(t, kind, s, "", api.ErrCharset)
			}
		}
		want := charset.Utf8
		if letter <= 0x7f {
			want = charset.Ascii
		} else if letter <= 0xff {
			want = charset.Latin
		}
		if charset.Least(s) != want {
			least(t, s, want)
		}
	}
}

// 6.2: letters that are left early tell nothing more, and tell all again when they are gone through again.
func TestLettersLeftEarly(t *testing.T) {
	all := []rune{'a', 0xe9, 0x20ac, 0x1f600, 0xfffd, 0}
	for _, tail := range []string{"", "\xff", "\xe2\x82", "\x80a"} {
		letters := charset.Letters("a\xc3\xa9\xe2\x82\xac\xf0\x9f\x98\x80\xef\xbf\xbd\x00" + tail)
		for stop := 1; stop <= len(all); stop++ {
			var got []rune
			letters(func(letter rune) bool {
				got = append(got, letter)
				return len(got) < stop
			})
			if !slices.Equal(got, all[:stop]) {
				t.Errorf("Letters, left at %d: %x", stop, got)
			}
			got = nil
			for letter := range letters {
				got = append(got, letter)
				if len(got) == stop {
					break
				}
			}
			if !slices.Equal(got, all[:stop]) {
				t.Errorf("Letters, behind a break at %d: %x", stop, got)
			}
			if again := slices.Collect(letters); !slices.Equal(again, all) {
				t.Errorf("Letters, gone through again behind %d: %x", stop, again)
			}
		}
	}
}

// 6.2: letters gone through within themselves don't get in one another's way.
func TestLettersWithinThemselves(t *testing.T) {
	got := ""
	letters := charset.Letters("a\xc3\xa9b\xff")
	for a := range letters {
		for b := range letters {
			got += string(a) + string(b) + " "
		}
	}
	if got != "aa a\u00e9 ab \u00e9a \u00e9\u00e9 \u00e9b ba b\u00e9 bb " {
		t.Errorf("Letters within themselves: %q", got)
	}
}

// 6.3: Decode.
func TestDecode(t *testing.T) {
	for _, row := range []struct {
		kind int
		b    string
		want string
		e    api.Errno
	}{
		{charset.Ascii, "", "", api.OK}, {charset.Latin, "", "", api.OK}, {charset.Utf8, "", "", api.OK},
		{charset.Ascii, "abc\r\n", "abc\r\n", api.OK}, {charset.Latin, "abc", "abc", api.OK}, {charset.Utf8, "abc", "abc", api.OK},
		{charset.Ascii, "\x00\x7f", "\x00\x7f", api.OK}, {charset.Latin, "\x00\x7f", "\x00\x7f", api.OK}, {charset.Utf8, "\x00\x7f", "\x00\x7f", api.OK},
		{charset.Latin, "\xe9", "\xc3\xa9", api.OK}, {charset.Latin, "\x80", "\xc2\x80", api.OK}, {charset.Latin, "\xbf\xc0", "\xc2\xbf\xc3\x80", api.OK}, {charset.Latin, "\xff", "\xc3\xbf", api.OK},
		{charset.Latin, "a\xe9b", "a\xc3\xa9b", api.OK}, {charset.Latin, "\x80\xff\x00", "\xc2\x80\xc3\xbf\x00", api.OK}, {charset.Latin, "\xc3\xa9", "\xc3\x83\xc2\xa9", api.OK}, {charset.Latin, "\xef\xbf\xbd", "\xc3\xaf\xc2\xbf\xc2\xbd", api.OK},
		{charset.Utf8, "\xc3\xa9", "\xc3\xa9", api.OK}, {charset.Utf8, "\xef\xbf\xbd", "\xef\xbf\xbd", api.OK}, {charset.Utf8, "\xef\xbb\xbfa", "\xef\xbb\xbfa", api.OK}, {charset.Utf8, "\xf4\x8f\xbf\xbf", "\xf4\x8f\xbf\xbf", api.OK},
		// a byte above 127, at each place
		{charset.Ascii, "\x80", "", api.ErrCharset}, {charset.Ascii, "\xff", "", api.ErrCharset}, {charset.Ascii, "\xe9", "", api.ErrCharset}, {charset.Ascii, "\x80bc", "", api.ErrCharset}, {charset.Ascii, "a\x80c", "", api.ErrCharset}, {charset.Ascii, "ab\x80", "", api.ErrCharset},
		{charset.Ascii, "\xc3\xa9", "", api.ErrCharset}, {charset.Ascii, "ab\xf0\x9f\x98\x80", "", api.ErrCharset},
		// what is not right
		{charset.Utf8, "\xe9", "", api.ErrCharset}, {charset.Utf8, "\x80", "", api.ErrCharset}, {charset.Utf8, "a\xff", "", api.ErrCharset}, {charset.Utf8, "\xc3", "", api.ErrCharset}, {charset.Utf8, "\xc0\x80", "", api.ErrCharset}, {charset.Utf8, "\xed\xa0\x80", "", api.ErrCharset},
	} {
		decoded(t, row.kind, row.b, row.want, row.e)
	}
	for _, s := range wrong {
		for _, head := range []string{"", "a", "abc\xc3\xa9"} {
			decoded(t, charset.Utf8, head+s, "", api.ErrCharset)
			decoded(t, charset.Utf8, head+s+"abc", "", api.ErrCharset)
			decoded(t, charset.Ascii, head+s, "", api.ErrCharset)
		}
	}
}

// 6.3: each byte, at each place of short and long texts.
func TestDecodeEachByte(t *testing.T) {
	for n, b := range sample.Bytes() {
		for size := range 20 {
			for at := range size + 1 {
				head, tail := strings.Repeat("a", at), strings.Repeat("z", size-at)
				s := head + b + tail
				decoded(t, charset.Latin, s, head+string(rune(n))+tail, api.OK)
				if n < 128 {
					decoded(t, charset.Ascii, s, s, api.OK)
					decoded(t, charset.Utf8, s, s, api.OK)
				} else {
					decoded(t, charset.Ascii, s, "", api.ErrCharset)
					decoded(t, charset.Utf8, s, "", api.ErrCharset)
				}
			}
		}
	}
	all := strings.Join(sample.Bytes(), "")
	want := ""
	for n := range 256 {
		want += bytesOf(rune(n))
	}
	decoded(t, charset.Latin, all, want, api.OK)
	decoded(t, charset.Ascii, all[:128], all[:128], api.OK)
	decoded(t, charset.Ascii, all[:129], "", api.ErrCharset)
	encoded(t, charset.Latin, want, all, api.OK)
}

// 6.3: Encode, and the least charset.
func TestEncode(t *testing.T) {
	for _, row := range []struct {
		s            string
		ascii, latin string
		least        int
	}{
		{"", "", "", charset.Ascii}, {"a", "a", "a", charset.Ascii}, {"abc\r\n", "abc\r\n", "abc\r\n", charset.Ascii}, {"\x00", "\x00", "\x00", charset.Ascii}, {"\x7f", "\x7f", "\x7f", charset.Ascii},
		{"\xc3\xa9", "", "\xe9", charset.Latin}, {"\xc2\x80", "", "\x80", charset.Latin}, {"\xc3\xbf", "", "\xff", charset.Latin}, {"a\xc3\xa9b", "", "a\xe9b", charset.Latin}, {"ab\xc2\xa0", "", "ab\xa0", charset.Latin}, {"\xc3\x83\xc2\xa9", "", "\xc3\xa9", charset.Latin},
		{"\xc4\x80", "", "", charset.Utf8}, {"\xdf\xbf", "", "", charset.Utf8}, {"\xe0\xa0\x80", "", "", charset.Utf8}, {"\xe2\x82\xac", "", "", charset.Utf8}, {"\xed\x9f\xbf", "", "", charset.Utf8}, {"\xee\x80\x80", "", "", charset.Utf8}, {"\xef\xbf\xbd", "", "", charset.Utf8}, {"\xef\xbf\xbf", "", "", charset.Utf8}, {"\xf0\x90\x80\x80", "", "", charset.Utf8}, {"\xf4\x8f\xbf\xbf", "", "", charset.Utf8},
		{"a\xe2\x82\xacb", "", "", charset.Utf8}, {"\xc3\xa9\xe2\x82\xac", "", "", charset.Utf8}, {"\xe2\x82\xac\xc3\xa9", "", "", charset.Utf8}, {"abc\xc4\x80", "", "", charset.Utf8}, {"\xc4\x80abc", "", "", charset.Utf8}, {"\xef\xbb\xbfabc", "", "", charset.Utf8}, {"\xc2\x92\xe2\x80\x99", "", "", charset.Utf8},
	} {
		want := map[int]string{charset.Ascii: row.ascii, charset.Latin: row.latin, charset.Utf8: row.s}
		for kind, b := range want {
			if kind < row.least {
				encoded(t, kind, row.s, "", api.ErrCharset)
			} else {
				encoded(t, kind, row.s, b, api.OK)
			}
		}
		least(t, row.s, row.least)
	}
}

// 6.3: letters above a charset's last one, at each place.
func TestEncodeEachPlace(t *testing.T) {
	for _, letter := range edges {
		for at := range 6 {
			head, tail := strings.Repeat("\x7f", at), strings.Repeat("\x00", 5-at)
			s := head + bytesOf(letter) + tail
			narrow := head + string([]byte{byte(letter)}) + tail
			encoded(t, charset.Utf8, s, s, api.OK)
			switch {
			case letter <= 0x7f:
				encoded(t, charset.Ascii, s, narrow, api.OK)
				encoded(t, charset.Latin, s, narrow, api.OK)
				least(t, s, charset.Ascii)
			case letter <= 0xff:
				encoded(t, charset.Ascii, s, "", api.ErrCharset)
				encoded(t, charset.Latin, s, narrow, api.OK)
				least(t, s, charset.Latin)
			default:
				encoded(t, charset.Ascii, s, "", api.ErrCharset)
				encoded(t, charset.Latin, s, "", api.ErrCharset)
				least(t, s, charset.Utf8)
			}
		}
	}
}

// 6.3: a text that is not right, with and without a letter that the charset has not, in either order.
func TestEncodeWrong(t *testing.T) {
	for _, s := range wrong {
		for _, beside := range []string{"", "a", "\xc3\xa9", "\xc4\x80", "\xe2\x82\xac", "\xf0\x9f\x98\x80", "\xef\xbf\xbd", "abc\xe2\x82\xac"} {
			for _, text := range []string{s, s + beside, beside + s, beside + s + beside} {
				for kind := range names {
					encoded(t, kind, text, "", api.ErrField)
				}
				least(t, text, charset.None)
			}
		}
	}
	for _, letter := range edges {
		whole := bytesOf(letter)
		for size := 1; size < len(whole); size++ {
			for kind := range names {
				encoded(t, kind, whole[:size], "", api.ErrField)
				encoded(t, kind, "\xe2\x82\xac"+whole[:size], "", api.ErrField)
				encoded(t, kind, whole[:size]+"\xe2\x82\xac", "", api.ErrField)
				encoded(t, kind, whole[size:], "", api.ErrField)
			}
			least(t, whole[:size], charset.None)
			least(t, whole[size:], charset.None)
			decoded(t, charset.Utf8, whole[:size], "", api.ErrCharset)
			decoded(t, charset.Utf8, whole[size:], "", api.ErrCharset)
		}
	}
}

// 6.3: no such charset, whatever the bytes or the text.
func TestNoSuchCharset(t *testing.T) {
	for _, kind := range none {
		for _, s := range append([]string{"", "a", "abc", "\xc3\xa9", "\xe2\x82\xac", "\xef\xbf\xbd", "\xe2\x82\xac\xff", "\xff\xe2\x82\xac"}, wrong...) {
			decoded(t, kind, s, "", api.ErrKind)
			encoded(t, kind, s, "", api.ErrKind)
		}
	}
}

// many are texts, right ones and wrong ones: all of two bytes and of bytes at the edges, and longer ones that are the same at each run.
func many() []string {
	l := append(sample.Texts(strings.Join(sample.Bytes(), ""), 2), sample.Texts("A\x80\x9f\xa0\xbf\xc2\xc3\xe0\xed\xf0\xf4", 4)...)
	l = append(l, sample.Texts("\x7f\x8f\x90\xbf\xc1\xdf\xec\xee\xef\xf1\xf3\xf5\xff", 3)...)
	l = append(l, sample.Texts("\x80\xbf\xf0\x90", 6)...)
	r := rand.New(rand.NewSource(6))
	for i := range 20000 {
		s := ""
		for range r.Intn(12) {
			// Of three texts one has small letters alone, one such up to 255, one all.
			n := []rune{0x80, 0x100, 0x110000}[i%3]
			if letter := r.Int31n(n); letter < 0xd800 || letter > 0xdfff {
				s += bytesOf(letter)
			}
			s += bytesOf(edges[r.Intn([]int{5, 11, len(edges)}[i%3])])
		}
		if i%4 == 0 && s != "" {
			at := r.Intn(len(s))
			s = s[:at] + sample.Bytes()[r.Intn(256)] + s[at+r.Intn(2):]
		}
		l = append(l, s)
	}
	return l
}

// 6.2 and 6.3: many texts.
func TestMany(t *testing.T) {
	count := map[int]int{}
	for _, s := range many() {
		allHeld(t, s)
		count[charset.Least(s)]++
	}
	for kind := charset.None; kind <= charset.Utf8; kind++ {
		if count[kind] < 2000 {
			t.Errorf("%d texts of least %d", count[kind], kind)
		}
	}
}

// 6.4: what is encoded is decoded again, and the other way round.
func TestThereAndBack(t *testing.T) {
	count := map[int]int{}
	for _, s := range append(many(), strings.Join(sample.Bytes(), "")) {
		for kind := range names {
			if b, e := charset.Encode(kind, s); e == api.OK {
				decoded(t, kind, b, s, api.OK)
				count[kind]++
			}
			if text, e := charset.Decode(kind, s); e == api.OK {
				encoded(t, kind, text, s, api.OK)
				if !charset.Valid(text) || charset.Least(text) > kind {
					t.Errorf("Decode(%d, %q): %q", kind, s, text)
				}
				count[kind]++
			}
		}
	}
	for kind := range names {
		if count[kind] < 10000 {
			t.Errorf("%d texts of charset %d", count[kind], kind)
		}
	}
}

// P1: calls end, and none panics, at long texts, too; what is asked twice is answered the same.
func TestCallsEnd(t *testing.T) {
	for _, c := range append(sample.Bytes(), "\xc3\xa9", "\xe2\x82\xac", "\xf0\x9f\x98\x80", "a\xe9", "\xed\xa0\x80") {
		s := strings.Repeat(c, 1<<13)
		letters := len(slices.Collect(charset.Letters(s)))
		if want, _ := lettersWords(c); charset.Valid(c) && letters != len(want)<<13 {
			t.Errorf("Letters of many %q: %d", c, letters)
		}
		if charset.Valid(s) != charset.Valid(c) || charset.Least(s) != charset.Least(c) || charset.Named(s) != charset.None {
			t.Errorf("many %q are not as one is", c)
		}
		for kind := charset.None; kind <= charset.Utf8+1; kind++ {
			one, oneE := charset.Decode(kind, c)
			for range 2 {
				if text, e := charset.Decode(kind, s); e != oneE || text != strings.Repeat(one, 1<<13) {
					t.Errorf("Decode(%d) of many %q: %v", kind, c, e)
				}
			}
			one, oneE = charset.Encode(kind, c)
			for range 2 {
				if b, e := charset.Encode(kind, s); e != oneE || b != strings.Repeat(one, 1<<13) {
					t.Errorf("Encode(%d) of many %q: %v", kind, c, e)
				}
			}
		}
	}
}
