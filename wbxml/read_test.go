package wbxml_test

import (
	"slices"
	"strings"
	"testing"

	"cardcase/api"
	"cardcase/sample"
	"cardcase/vocab"
	"cardcase/wbxml"
)

// reads holds a document's element against what it must be.
func reads(t *testing.T, what, s string, want api.Elem) {
	t.Helper()
	if got, at, e := wbxml.Read(s); !same(got, want) || at != 0 || e != api.OK {
		t.Errorf("Read, %s (%.100x): %.100v, %v at %d, not %.100v", what, s, got, e, at, want)
	}
}

// refuses holds that a text is no document, and why, and where.
func refuses(t *testing.T, what, s string, at int, want api.Errno) {
	t.Helper()
	got, place, e := wbxml.Read(s)
	if place != at || e != want {
		t.Errorf("Read, %s (%.100x): %v at %d, not %v at %d", what, s, e, place, want, at)
	}
	if !same(got, api.Elem{}) {
		t.Errorf("Read, %s (%.100x): %.100v beside an error", what, s, got)
	}
}

// 15.2: a text of MaxDoc bytes, and of one more.
func TestReadLong(t *testing.T) {
	for _, size := range []int{mostDoc - 1, mostDoc} {
		e := ofSize(t, size)
		reads(t, "long", writeWords(e), e)
	}
	for _, size := range []int{mostDoc + 1, mostDoc + 2} {
		refuses(t, "too long", writeWords(ofSize(t, size)), 0, api.ErrLong)
	}
	// Whatever else is wrong with it
	for _, b := range sample.Bytes() {
		refuses(t, "too long, all of one byte", strings.Repeat(b, mostDoc+1), 0, api.ErrLong)
	}
	refuses(t, "far too long", strings.Repeat("\x03", 1<<24), 0, api.ErrLong)
	full := func(b string) string { return doc("", strings.Repeat(b, mostDoc-4)) }
	refuses(t, "all noughts", full("\x00"), mostDoc, api.ErrShort)
	refuses(t, "ever deeper", full("\x45"), 4+mostDeep+1, api.ErrDeep)
	refuses(t, "one element behind the other", full("\x05"), 5, api.ErrMore)
	refuses(t, "all ends", full("\x01"), 4, api.ErrKind)
	refuses(t, "a table of all", "\x03\x01\x6a\xdd\x5b"+strings.Repeat("a", mostDoc-5), mostDoc, api.ErrShort)
}

// 15.2: the three numbers at the beginning, wrong and cut off.
func TestReadHead(t *testing.T) {
	refuses(t, "no byte at all", "", 0, api.ErrShort)
	for _, b := range sample.Bytes() {
		if b != "\x03" {
			refuses(t, "the first byte", b, 0, api.ErrKind)
			refuses(t, "the first byte, and others", b+"\x01\x6a\x00\x05", 0, api.ErrKind)
			refuses(t, "the first byte, and the others, too", b+b+b+b, 0, api.ErrKind)
		}
	}
	for _, head := range []struct {
		s      string
		wanted int
	}{{"\x03", 1}, {"\x03\x01", 106}} {
		at := len(head.s)
		refuses(t, "no number", head.s, at, api.ErrShort)
		for _, n := range []int{0, 1, 2, 3, 4, 105, 106, 107, 127, 128, 129, 234, 1 << 14, 1<<14 + 1, 1<<21 + 106, 1<<28 + 1, 1<<32 - 1} {
			if n == head.wanted {
				continue
			}
			refuses(t, "another number", head.s+number(n)+"\x6a\x00\x05", at, api.ErrKind)
			refuses(t, "another number, and nothing", head.s+number(n), at, api.ErrKind)
			if n > 127 {
				refuses(t, "another number, cut off", head.s+number(n)[:1], at, api.ErrShort)
			}
		}
		behind := "\x6a\x00\x05"
		if head.wanted == 106 {
			behind = "\x00\x05"
		}
		reads(t, "the number", head.s+number(head.wanted)+behind, leaf(0, "Add", ""))
		refuses(t, "the number in two bytes", head.s+"\x80"+number(head.wanted)+behind, at, api.ErrField)
		refuses(t, "a number too great", head.s+"\x90\x80\x80\x80"+number(head.wanted)+behind, at, api.ErrRange)
		refuses(t, "a number far too great", head.s+"\xff\xff\xff\xff\xff\xff\x7f"+behind, at, api.ErrRange)
		refuses(t, "a number without an end", head.s+"\xff\xff\xff\xff", at, api.ErrShort)
	}
	refuses(t, "both numbers wrong", "\x03\x02\x6b\x00\x05", 1, api.ErrKind)
	refuses(t, "the second number wrong, and its table cut off", "\x03\x01\x6b\x05", 2, api.ErrKind)
}

// 15.2: the table, and one that is cut off.
func TestReadTable(t *testing.T) {
	const head = "\x03\x01\x6a"
	refuses(t, "no number of the table's", head, 3, api.ErrShort)
	refuses(t, "a number cut off", head+"\x81", 3, api.ErrShort)
	refuses(t, "a number with a byte too many", head+"\x80\x00\x05", 3, api.ErrField)
	refuses(t, "a number too great", head+"\xff\xff\xff\xff\x7f\x05", 3, api.ErrRange)
	refuses(t, "no table", head+"\x01", 4, api.ErrShort)
	refuses(t, "a table cut off", head+"\x04abc", 4, api.ErrShort)
	refuses(t, "a table of two bytes' number, cut off", head+"\x81\x00"+strings.Repeat("a", 127), 5, api.ErrShort)
	for _, n := range []int{mostDoc, 1 << 20, 1<<31 - 1, 1 << 31, 1<<31 + 1, 1<<32 - 2, 1<<32 - 1} {
		refuses(t, "a table far too long", head+number(n)+"\x05", 3+len(number(n)), api.ErrShort)
		refuses(t, "a table far too long, and much behind", head+number(n)+strings.Repeat("\x05", 9000), 3+len(number(n)), api.ErrShort)
	}
	for _, table := range []string{"", "a", "\x00", "abc\x00", "\xff\x80", "\x03\x01\x6a\x00\x05", strings.Repeat("a", 127), strings.Repeat("a", 128), strings.Repeat("\x00", 11000)} {
		reads(t, "a table that nobody needs", doc(table, "\x05"), leaf(0, "Add", ""))
		refuses(t, "no element behind the table", doc(table, ""), len(doc(table, "")), api.ErrShort)
	}
	refuses(t, "an element in the table alone", head+"\x01\x05", 5, api.ErrShort)
}

// 15.2: pages: a page there is none of, again and again a page.
func TestReadPages(t *testing.T) {
	for page := range 3 {
		named := "\x00" + string([]byte{byte(page)})
		want := leaf(page, vocab.Name(page, 5), "")
		reads(t, "a page", doc("", named+"\x05"), want)
		reads(t, "a page twice", doc("", named+named+"\x05"), want)
		reads(t, "a page behind others", doc("", "\x00\x02\x00\x01\x00\x00"+named+"\x05"), want)
		reads(t, "a page ahead of a name", doc("Any\x00", named+"\x04\x00"), leaf(page, "Any", ""))
		around := node(page, vocab.Name(page, 6), want, want)
		reads(t, "a page, of kids, too", doc("", named+"\x46\x05\x05\x01"), around)
		reads(t, "a page named again", doc("", named+"\x46"+named+"\x05"+named+"\x05\x01"), around)
		refuses(t, "a page alone", doc("", named), 6, api.ErrShort)
		refuses(t, "a page, and behind it a page without an end", doc("", named+"\x00"), 7, api.ErrShort)
		refuses(t, "a page ahead of an end", doc("", "\x45"+named+"\x01"), 7, api.ErrKind)
		refuses(t, "a page ahead of a text", doc("", "\x45"+named+"\x03a\x00\x01"), 7, api.ErrKind)
		refuses(t, "a page ahead of a table's text", doc("a\x00", "\x45"+named+"\x83\x00\x01"), 9, api.ErrKind)
		refuses(t, "a page ahead of bytes", doc("", "\x45"+named+"\xc3\x01a\x01"), 7, api.ErrKind)
		refuses(t, "a page behind the element", doc("", "\x05"+named), 5, api.ErrMore)
	}
	reads(t, "a thousand pages", doc("", strings.Repeat("\x00\x01\x00\x02", 1000)+"\x05"), leaf(2, "CTCap", ""))
	reads(t, "the page that was named last", doc("", "\x5a\x00\x01\x4e\x00\x02\x1c\x01\x1c\x01"), node(0, "Meta", node(1, "MetInf", leaf(2, "Size", "")), leaf(2, "Size", "")))
	reads(t, "there and back", doc("", "\x5a\x00\x01\x12\x00\x00\x0f\x01"), node(0, "Meta", leaf(1, "Size", ""), leaf(0, "Data", "")))
	refuses(t, "no page", doc("", "\x00"), 5, api.ErrShort)
	refuses(t, "no page within", doc("", "\x45\x00"), 6, api.ErrShort)
	for b := 3; b < 256; b++ {
		none := "\x00" + string([]byte{byte(b)})
		refuses(t, "a page there is none of", doc("", none), 5, api.ErrKind)
		refuses(t, "a page there is none of, and an element", doc("", none+"\x05"), 5, api.ErrKind)
		refuses(t, "a page there is none of, behind others", doc("", "\x00\x01\x00\x02"+none+"\x05"), 9, api.ErrKind)
		refuses(t, "a page there is none of, within", doc("abcd\x00", "\x45\x05"+none+"\x05\x01"), 12, api.ErrKind)
	}
}

// 15.2: each byte where an element's must stand.
func TestReadBytes(t *testing.T) {
	for b := range 256 {
		s := string([]byte{byte(b)})
		for page := range 3 {
			head := doc("", "\x00"+string([]byte{byte(page)}))
			name := vocab.Name(page, byte(b)&0x3f)
			switch {
			case b == 0:
				refuses(t, "a page without an end", head+s, len(head)+1, api.ErrShort)
			case b > 127 || b == 1 || b == 2 || b == 3 || b >= 64 && b <= 67:
				refuses(t, "a byte that is no element's", head+s, len(head), api.ErrKind)
				refuses(t, "a byte that is no element's, and others", head+s+"\x00\x05\x01", len(head), api.ErrKind)
			case b == 4 || b == 68:
				refuses(t, "a name without an index", head+s, len(head)+1, api.ErrShort)
			case name == "":
				refuses(t, "a token without a name", head+s, len(head)+1, api.ErrName)
				refuses(t, "a token without a name, and others", head+s+"\x05\x01", len(head)+1, api.ErrName)
			case b < 64:
				reads(t, "a token", head+s, leaf(page, name, ""))
				refuses(t, "a token, with an end", head+s+"\x01", len(head)+1, api.ErrMore)
			default:
				refuses(t, "a token without an end", head+s, len(head)+1, api.ErrShort)
				reads(t, "a token with nothing within", head+s+"\x01", leaf(page, name, ""))
				reads(t, "a token with a text", head+s+"\x03a\x00\x01", leaf(page, name, "a"))
			}
		}
	}
	for _, b := range []string{"\x30", "\x35", "\x3f", "\x70", "\x75", "\x7f"} {
		refuses(t, "a token without a name", doc("", b+"\x01"), 5, api.ErrName)
	}
}

// 15.2: each byte that can begin nothing within an element.
func TestReadBytesWithin(t *testing.T) {
	for b := range 256 {
		s := string([]byte{byte(b)})
		isNone := b > 127 && b != 0x83 && b != 0xc3 || b == 2 || b >= 64 && b <= 67
		if !isNone {
			continue
		}
		refuses(t, "first", doc("", "\x45"+s), 5, api.ErrKind)
		refuses(t, "first, with others", doc("", "\x45"+s+"\x00\x05\x01"), 5, api.ErrKind)
		refuses(t, "behind a kid", doc("", "\x45\x05"+s+"\x01"), 6, api.ErrKind)
		refuses(t, "behind a kid's end", doc("", "\x45\x46\x01"+s+"\x01"), 7, api.ErrKind)
		refuses(t, "behind a page", doc("", "\x45\x00\x01"+s+"\x01"), 7, api.ErrKind)
		refuses(t, "within a kid", doc("a\x00", "\x45\x46"+s+"\x01\x01"), 8, api.ErrKind)
	}
	for _, b := range []string{"\x01", "\x03", "\x83", "\xc3"} {
		refuses(t, "what is not an element's, behind a page", doc("a\x00", "\x45\x00\x01"+b+"\x00\x01"), 9, api.ErrKind)
		refuses(t, "what is not an element's, as one", doc("a\x00", b+"\x00\x01"), 6, api.ErrKind)
	}
	refuses(t, "a kid's token without a name", doc("", "\x45\x3f\x01"), 6, api.ErrName)
	refuses(t, "a kid's token without a name, with 64", doc("", "\x45\x05\x7f\x01\x01"), 7, api.ErrName)
	refuses(t, "a token of another page alone", doc("", "\x45\x00\x01\x2a\x01"), 8, api.ErrName)
}

// 15.2: indexes: within the table, behind its end, in the middle of a text, where no nought follows.
func TestReadIndex(t *testing.T) {
	const table = "abcd\x00Any\x00\x00X"
	at := len(doc(table, ""))
	texts := []string{"abcd", "bcd", "cd", "d", "", "Any", "ny", "y", "", ""}
	for index, text := range texts {
		n := number(index)
		reads(t, "a text", doc(table, "\x45\x83"+n+"\x01"), leaf(0, "Add", text))
		reads(t, "a text behind another", doc(table, "\x45\x03-\x00\x83"+n+"\x83"+n+"\x01"), leaf(0, "Add", "-"+text+text))
		if text == "" {
			refuses(t, "an empty name", doc(table, "\x04"+n), 0, api.ErrName)
			refuses(t, "an empty name, with a text", doc(table, "\x44"+n+"\x03a\x00\x01"), 0, api.ErrName)
			continue
		}
		reads(t, "a name", doc(table, "\x04"+n), leaf(0, text, ""))
		reads(t, "a name with a text", doc(table, "\x44"+n+"\x03a\x00\x01"), leaf(0, text, "a"))
		reads(t, "a name within", doc(table, "\x45\x04"+n+"\x44"+n+"\x01\x01"), node(0, "Add", leaf(0, text, ""), leaf(0, text, "")))
	}
	bad := func(n string, back int, want api.Errno) {
		t.Helper()
		refuses(t, "a name", doc(table, "\x04"+n), at+1+back, want)
		refuses(t, "a name with 64", doc(table, "\x44"+n+"\x01"), at+1+back, want)
		refuses(t, "a text", doc(table, "\x45\x83"+n+"\x01"), at+2+back, want)
		refuses(t, "a text behind another", doc(table, "\x45\x03a\x00\x83"+n+"\x01"), at+5+back, want)
		refuses(t, "a kid's name", doc(table, "\x45\x05\x04"+n+"\x01"), at+3+back, want)
		refuses(t, "a name behind a page", doc(table, "\x00\x02\x04"+n), at+3+back, want)
	}
	// The last byte of the table, and no nought behind it
	bad("\x0a", 1, api.ErrShort)
	for _, n := range []int{11, 12, 127, 128, 1 << 14, 1 << 31, 1<<32 - 1} {
		bad(number(n), len(number(n)), api.ErrRange)
	}
	bad("\x80\x00", 0, api.ErrField)
	bad("\xff\xff\xff\xff\x7f", 0, api.ErrRange)
	for _, n := range []string{"", "\x81", "\xff\xff\xff\xff"} {
		refuses(t, "a name, cut off", doc(table, "\x04"+n), at+1, api.ErrShort)
		refuses(t, "a text, cut off", doc(table, "\x45\x83"+n), at+2, api.ErrShort)
	}
	refuses(t, "a name of an empty table", doc("", "\x04\x00"), 6, api.ErrRange)
	refuses(t, "a text of an empty table", doc("", "\x45\x83\x00\x01"), 7, api.ErrRange)
	refuses(t, "the index behind a table of one nought", doc("\x00", "\x45\x83\x01\x01"), 8, api.ErrRange)
	refuses(t, "a table of one byte", doc("a", "\x45\x83\x00\x01"), 8, api.ErrShort)
	refuses(t, "noughts behind the table don't end its last text", doc("Any", "\x04\x00\x00\x00"), 9, api.ErrShort)
	long := strings.Repeat("a", 300) + "\x00Any\x00"
	reads(t, "an index of two bytes", doc(long, "\x44\x82\x2d\x83\x82\x2b\x01"), leaf(0, "Any", "a"))
	reads(t, "a name that has a token", doc("Add\x00", "\x04\x00"), leaf(0, "Add", ""))
}

// 15.2: within: texts, one of them or more, in any way.
func TestReadTexts(t *testing.T) {
	reads(t, "a text", doc("", "\x45\x03ab\x00\x01"), leaf(0, "Add", "ab"))
	reads(t, "an empty text", doc("", "\x45\x03\x00\x01"), leaf(0, "Add", ""))
	reads(t, "nothing", doc("", "\x45\x01"), leaf(0, "Add", ""))
	reads(t, "two texts", doc("", "\x45\x03ab\x00\x03cd\x00\x01"), leaf(0, "Add", "abcd"))
	reads(t, "three texts, one of them empty", doc("", "\x45\x03ab\x00\x03\x00\x03cd\x00\x01"), leaf(0, "Add", "abcd"))
	reads(t, "one of the table behind one that is not", doc("xyz\x00", "\x45\x03ab\x00\x83\x00\x01"), leaf(0, "Add", "abxyz"))
	reads(t, "one that is not behind one of the table", doc("xyz\x00", "\x45\x83\x00\x03ab\x00\x01"), leaf(0, "Add", "xyzab"))
	reads(t, "two of the table", doc("xyz\x00", "\x45\x83\x01\x83\x00\x01"), leaf(0, "Add", "yzxyz"))
	reads(t, "a letter in two texts", doc("\xa9\x00", "\x45\x03\xc3\x00\x83\x00\x01"), leaf(0, "Add", "\u00e9"))
	reads(t, "what would begin something else", doc("", "\x45\x03\x0a\x09 \x7f\xc3\xa9\x00\x01"), leaf(0, "Add", "\n\t \x7f\u00e9"))
	refuses(t, "a text without an end", doc("", "\x45\x03ab"), 6, api.ErrShort)
	refuses(t, "a text without anything", doc("", "\x45\x03"), 6, api.ErrShort)
	refuses(t, "a second text without an end", doc("", "\x45\x03ab\x00\x03c\x01"), 10, api.ErrShort)
	refuses(t, "a text, and no end of the element", doc("", "\x45\x03ab\x00"), 9, api.ErrShort)
	half := strings.Repeat("a", mostText/2)
	reads(t, "two texts of 4000 together", doc(half+"\x00", "\x45\x83\x00\x83\x00\x01"), leaf(0, "Add", half+half))
	refuses(t, "two texts of 4001 together", doc(half+"\x00", "\x45\x83\x00\x03a\x00\x83\x00\x01"), 0, api.ErrLong)
}

// 15.2: within: something opaque.
func TestReadOpaque(t *testing.T) {
	for _, bytes := range []string{"a", "\x00", "\x01\x01", "\xff\x80\x03\x05", strings.Repeat("\x00", 127), strings.Repeat("\xc3", 128), strings.Repeat("b", mostText)} {
		reads(t, "bytes", doc("", "\x45\xc3"+number(len(bytes))+bytes+"\x01"), holder(0, "Add", bytes))
	}
	reads(t, "no bytes", doc("", "\x45\xc3\x00\x01"), leaf(0, "Add", ""))
	refuses(t, "no number", doc("", "\x45\xc3"), 6, api.ErrShort)
	refuses(t, "a number cut off", doc("", "\x45\xc3\x81"), 6, api.ErrShort)
	refuses(t, "a number with a byte too many", doc("", "\x45\xc3\x80\x01a\x01"), 6, api.ErrField)
	refuses(t, "a number too great", doc("", "\x45\xc3\x90\x80\x80\x80\x00"), 6, api.ErrRange)
	refuses(t, "bytes cut off", doc("", "\x45\xc3\x03ab"), 7, api.ErrShort)
	refuses(t, "bytes, and no end of the element", doc("", "\x45\xc3\x02ab"), 9, api.ErrShort)
	for _, n := range []int{128, 1 << 14, 1<<31 - 1, 1 << 31, 1<<31 + 1, 1<<32 - 1} {
		refuses(t, "far too many bytes", doc("", "\x45\xc3"+number(n)+"ab\x01"), 6+len(number(n)), api.ErrShort)
	}
	refuses(t, "4001 bytes", doc("", "\x45\xc3\x9f\x21"+strings.Repeat("b", mostText+1)+"\x01"), 0, api.ErrLong)
}

// 15.2: what may come behind what: another text behind a text, another kid behind a kid; nothing else.
func TestReadFollow(t *testing.T) {
	type part struct {
		what string
		kind byte
		s    string
	}
	parts := []part{
		{"a text", 't', "\x03ab\x00"}, {"an empty text", 't', "\x03\x00"}, {"a text of the table", 't', "\x83\x00"}, {"two texts", 't', "\x03a\x00\x83\x00"},
		{"bytes", 'o', "\xc3\x02ab"}, {"no bytes", 'o', "\xc3\x00"},
		{"a kid", 'k', "\x05"}, {"a kid with a text", 'k', "\x46\x03a\x00\x01"}, {"a kid with bytes", 'k', "\x46\xc3\x01a\x01"},
		{"a kid of another page", 'k', "\x00\x01\x05"}, {"a kid by its name", 'k', "\x04\x00"}, {"two kids", 'k', "\x05\x05"},
	}
	for _, one := range parts {
		for _, then := range parts {
			what := one.what + ", then " + then.what
			s := doc("Any\x00", "\x45"+one.s+then.s+"\x01")
			if one.kind == then.kind && one.kind != 'o' {
				if got, at, e := wbxml.Read(s); e != api.OK {
					t.Errorf("%s: %v at %d, %v", what, e, at, got)
				}
				continue
			}
			at := len(s) - len(then.s)
			refuses(t, what, s, at, api.ErrState)
			// The byte by which it begins is enough.
			refuses(t, what+", cut off", s[:at], at, api.ErrState)
			refuses(t, what+", of which all else is wrong", s[:at]+"\xff\xff\xff\xff\xff", at, api.ErrState)
		}
		s := doc("Any\x00", "\x45"+one.s)
		refuses(t, one.what+", and no end", s, len(s), api.ErrShort)
	}
	reads(t, "bytes of a kid, and another kid", doc("", "\x45\x46\xc3\x01a\x01\x46\x03b\x00\x01\x01"), node(0, "Add", holder(0, "Alert", "a"), leaf(0, "Alert", "b")))
	reads(t, "no bytes of a kid, and another kid", doc("", "\x45\x46\xc3\x00\x01\x06\x01"), node(0, "Add", leaf(0, "Alert", ""), leaf(0, "Alert", "")))
}

// 15.2: 200 kids and 201, 12 deep and 13; of both the byte by which the kid begins is enough.
func TestReadMany(t *testing.T) {
	const kid = "\x46\x03a\x00\x01"
	kids := func(count int) string { return doc("Any\x00", "\x45"+strings.Repeat(kid, count)) }
	reads(t, "200 kids", kids(mostKids)+"\x01", node(0, "Add", slices.Repeat([]api.Elem{leaf(0, "Alert", "a")}, mostKids)...))
	open := func(count int) string { return doc("Any\x00", strings.Repeat("\x45", count)) }
	reads(t, "12 deep", doc("", strings.Repeat("\x45", mostDeep-1)+"\x05"+strings.Repeat("\x01", mostDeep-1)), nest(mostDeep))
	reads(t, "12 deep, with a text", open(mostDeep)+"\x03a\x00"+strings.Repeat("\x01", mostDeep), nest(mostDeep-1, leaf(0, "Add", "a")))
	for _, then := range []string{"\x05", "\x45", "\x04", "\x44", "\x00"} {
		for _, behind := range []string{"", "\x01", "\x00", "\x05", "\xff\xff\xff", "\x03a\x00\x01", strings.Repeat("\x45", 100)} {
			refuses(t, "201 kids", kids(mostKids)+then+behind, len(kids(mostKids))+1, api.ErrFull)
			refuses(t, "13 deep", open(mostDeep)+then+behind, len(open(mostDeep))+1, api.ErrDeep)
		}
	}
	refuses(t, "200 kids, and a text", kids(mostKids)+"\x03a\x00\x01", len(kids(mostKids))+1, api.ErrState)
	// Each element's own kids count, and how deep each lies.
	row := "\x45" + strings.Repeat("\x05", mostKids) + "\x01"
	e := node(0, "Add", slices.Repeat([]api.Elem{leaf(0, "Add", "")}, mostKids)...)
	reads(t, "200 kids, of two kids", doc("", "\x46"+row+row+"\x01"), node(0, "Alert", e, e))
	reads(t, "12 deep, twice", doc("", "\x46"+strings.Repeat(strings.Repeat("\x45", mostDeep-2)+"\x05"+strings.Repeat("\x01", mostDeep-2), 2)+"\x01"), node(0, "Alert", nest(mostDeep-1), nest(mostDeep-1)))
	refuses(t, "201 kids, of a kid", doc("", "\x46"+row+"\x45"+strings.Repeat("\x05", mostKids+1)), len(doc("", "\x46"+row+"\x45"))+mostKids+1, api.ErrFull)
	// As deep as may be, and too many of them
	twelfth := doc("", strings.Repeat("\x45", mostDeep-1)+strings.Repeat("\x05", mostKids))
	refuses(t, "201 kids, 12 deep", twelfth+"\x05", len(twelfth)+1, api.ErrFull)
}

// 15.2: behind the element nothing may be left.
func TestReadMore(t *testing.T) {
	for _, s := range []string{doc("", "\x05"), doc("", "\x45\x01"), doc("Any\x00", "\x44\x00\xc3\x01\x00\x01"), doc("", "\x00\x02\x05")} {
		for _, b := range sample.Bytes() {
			refuses(t, "a byte more", s+b, len(s), api.ErrMore)
			refuses(t, "more bytes", s+b+b+b, len(s), api.ErrMore)
		}
		refuses(t, "the same again", s+s, len(s), api.ErrMore)
	}
	// More comes ahead of what tree.Check would say, as that is asked of a document that is read to its end.
	s := doc("-\x00", "\x04\x00")
	refuses(t, "a name that is none", s, 0, api.ErrName)
	refuses(t, "a name that is none, and a byte more", s+"\x00", len(s), api.ErrMore)
}

// 15.2: an element that is whole, but not right.
func TestReadNotRight(t *testing.T) {
	long := strings.Repeat("N", 33)
	for what, one := range map[string]struct {
		s    string
		want api.Errno
	}{
		"a name that is none":         {doc("1\x00", "\x04\x00"), api.ErrName},
		"a name with a blank":         {doc("A b\x00", "\x44\x00\x03a\x00\x01"), api.ErrName},
		"a name of 33":                {doc(long+"\x00", "\x45\x05\x04\x00\x01"), api.ErrName},
		"a byte below 32":             {doc("", "\x45\x03\x01\x00\x01"), api.ErrField},
		"a carriage return":           {doc("", "\x45\x03a\x0db\x00\x01"), api.ErrField},
		"a text that is no letters":   {doc("", "\x45\x03\xff\x00\x01"), api.ErrField},
		"a text of the table, no one": {doc("\xc3\x00", "\x45\x05\x46\x83\x00\x01\x01"), api.ErrField},
		"2001 elements":               {doc("", "\x6a"+strings.Repeat("\x45"+strings.Repeat("\x05", 199)+"\x01", 10)+"\x01"), api.ErrFull},
		"a text too long":             {doc(strings.Repeat("a", 1000)+"\x00", "\x45"+strings.Repeat("\x83\x00", 5)+"\x01"), api.ErrLong},
		"a text far too long":         {doc(strings.Repeat("a", 5999)+"\x00", "\x45"+strings.Repeat("\x83\x00", 2990)+"\x01"), api.ErrLong},
		"a name ahead of a text":      {doc("1\x00", "\x44\x00\x03\xff\x00\x01"), api.ErrName},
		"a text ahead of a name":      {doc("1\x00", "\x45\x46\x03\xff\x00\x01\x04\x00\x01"), api.ErrField},
	} {
		refuses(t, what, one.s, 0, one.want)
	}
	s := doc("", "\x6a"+strings.Repeat("\x45"+strings.Repeat("\x05", 198)+"\x01", 10)+"\x01")
	if got, at, e := wbxml.Read(s); e != api.OK || len(all(got)) != 1991 {
		t.Errorf("1991 elements: %d, %v at %d", len(all(got)), e, at)
	}
}

// 15.2: what is handed out is nobody else's: two readings of one document share nothing.
func TestReadKept(t *testing.T) {
	s := doc("", "\x6a\x45\x05\x05\x01\x45\x05\x01\x01")
	one, _, _ := wbxml.Read(s)
	want := copyOf(one)
	other, _, _ := wbxml.Read(s)
	for _, kid := range one.Kids {
		_ = append(kid.Kids, leaf(0, "Spoilt", ""))
		clear(kid.Kids[:cap(kid.Kids)])
	}
	clear(one.Kids[:cap(one.Kids)])
	if !same(other, want) || len(want.Kids) != 2 || len(want.Kids[0].Kids) != 2 {
		t.Errorf("of two readings the second one is %v", other)
	}
	reads(t, "again", s, want)
}
