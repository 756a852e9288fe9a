package wbxml_test

import (
	"slices"
	"strings"
	"testing"

	"cardcase/api"
	"cardcase/sample"
	"cardcase/tree"
	"cardcase/wbxml"
)

// tables holds an element's table against what it must be.
func tables(t *testing.T, what string, e api.Elem, want ...string) {
	t.Helper()
	if got := wbxml.Table(e); !slices.Equal(got, want) {
		t.Errorf("Table, %s: %.100q, not %.100q", what, got, want)
	}
}

// writes holds an element's document against what it must be.
func writes(t *testing.T, what string, e api.Elem, want string) {
	t.Helper()
	got, fault := wbxml.Write(e)
	if got != want || fault != api.OK {
		t.Errorf("Write, %s: %.100x, %v, not %.100x", what, got, fault, want)
	}
}

// refusesElem holds that an element has no document, for this reason.
func refusesElem(t *testing.T, what string, e api.Elem, want api.Errno) {
	t.Helper()
	if got, fault := wbxml.Write(e); got != "" || fault != want {
		t.Errorf("Write, %s: %d bytes, %v, not %v", what, len(got), fault, want)
	}
}

// 15.1: the chapter's examples.
func TestExamples(t *testing.T) {
	writes(t, "Add", tree.Node(0, "Add"), "\x03\x01\x6a\x00\x05")
	writes(t, "Last", tree.Leaf(1, "Last", "a"), "\x03\x01\x6a\x00\x00\x01\x4a\x03\x61\x00\x01")
	reads(t, "Add", "\x03\x01\x6a\x00\x05", tree.Node(0, "Add"))
	reads(t, "Last", "\x03\x01\x6a\x00\x00\x01\x4a\x03\x61\x00\x01", tree.Leaf(1, "Last", "a"))
}

// 15.1: names come into the table if their page has no token of them.
func TestTableNames(t *testing.T) {
	tables(t, "a token", leaf(0, "Add", ""))
	tables(t, "no token", leaf(0, "Any", ""), "Any")
	tables(t, "nearly a name", leaf(0, "add", ""), "add")
	tables(t, "a name of one letter", leaf(2, "N", ""), "N")
	tables(t, "a name of 32", leaf(2, strings.Repeat("N", 32), ""), strings.Repeat("N", 32))
	tables(t, "a name of another page", leaf(1, "Add", ""), "Add")
	tables(t, "a name that one page has not", node(0, "Sync", leaf(0, "Size", ""), leaf(1, "Size", ""), leaf(2, "Size", "")), "Size")
	tables(t, "a name that two pages have", node(0, "SourceRef", leaf(2, "SourceRef", "")))
	tables(t, "a page's own name on another page", node(1, "MetInf", leaf(0, "MetInf", ""), leaf(2, "MetInf", "")), "MetInf")
	tables(t, "the same name twice", node(0, "Any", leaf(0, "Any", "")), "Any")
	tables(t, "the same name beside one another", node(0, "Sync", leaf(0, "Any", "a"), leaf(0, "Any", "b")), "Any")
	tables(t, "the same name on all pages", node(0, "Any", leaf(1, "Any", ""), leaf(2, "Any", "")), "Any")
	tables(t, "small and great letters", node(0, "Any", leaf(0, "any", ""), leaf(0, "ANY", "")), "Any", "any", "ANY")
	tables(t, "a name that begins another", node(0, "Any", leaf(0, "An", ""), leaf(0, "Anyy", ""), leaf(0, "ny", "")), "Any", "An", "Anyy", "ny")
	tables(t, "a name of Opaque", holder(0, "Any", "bytes"), "Any")
}

// 15.1: texts come into the table if they have at least 4 bytes, and are those of two elements or more that are not Opaque.
func TestTableTexts(t *testing.T) {
	two := func(text string) api.Elem { return node(0, "Sync", leaf(0, "Add", text), leaf(0, "Data", text)) }
	tables(t, "no text", two(""))
	tables(t, "a text of one byte", two("a"))
	tables(t, "a text of 3 bytes", two("abc"))
	tables(t, "a text of 4 bytes", two("abcd"), "abcd")
	tables(t, "3 letters, of 4 bytes", two("ab\u00e9"), "ab\u00e9")
	tables(t, "2 letters, of 3 bytes", two("a\u00e9"))
	tables(t, "4 letters, of 5 bytes", two("abc\u00e9"), "abc\u00e9")
	tables(t, "a text of 4000 bytes", two(strings.Repeat("a", mostText)), strings.Repeat("a", mostText))
	tables(t, "a text of blanks and ends of lines", two(" \t\n "), " \t\n ")
	tables(t, "a text of one element", leaf(0, "Data", "abcd"))
	tables(t, "a text of one element, another text", node(0, "Sync", leaf(0, "Data", "abcd"), leaf(0, "Data", "abce"), leaf(0, "Data", "abcdabcd"), leaf(0, "Data", "abc")))
	tables(t, "a text of three elements", node(0, "Sync", leaf(0, "Data", "abcd"), leaf(0, "Data", "abcd"), leaf(0, "Data", "abcd")), "abcd")
	tables(t, "a text on two pages", node(0, "Sync", leaf(1, "Type", "abcd"), leaf(2, "Size", "abcd")), "abcd")
	tables(t, "a text at two depths", node(0, "Sync", leaf(0, "Data", "abcd"), node(0, "Item", node(0, "Meta", leaf(1, "Type", "abcd")))), "abcd")
	tables(t, "one of two Opaque, the second", node(0, "Sync", leaf(0, "Data", "abcd"), holder(0, "Data", "abcd")))
	tables(t, "one of two Opaque, the first", node(0, "Sync", holder(0, "Data", "abcd"), leaf(0, "Data", "abcd")))
	tables(t, "both Opaque", node(0, "Sync", holder(0, "Data", "abcd"), holder(0, "Data", "abcd")))
	tables(t, "one of three Opaque, the first", node(0, "Sync", holder(0, "Data", "abcd"), leaf(0, "Data", "efgh"), leaf(0, "Data", "abcd"), leaf(0, "Data", "efgh"), leaf(0, "Data", "abcd")), "efgh", "abcd")
	tables(t, "two of three Opaque", node(0, "Sync", holder(0, "Data", "abcd"), leaf(0, "Data", "abcd"), holder(0, "Data", "abcd")))
	// An element with a text has no kids; so the nearest to its own kid's is that of an element beside it, with a kid that has it again.
	tables(t, "a text, and a kid's beside it", node(0, "Sync", leaf(0, "Data", "abcd"), node(0, "Item", leaf(0, "Data", "abcd"))), "abcd")
	tables(t, "a name, and its own kid's text", node(0, "abcd", leaf(0, "Data", "abcd")), "abcd")
	tables(t, "a name, and its own kid's text twice", node(0, "abcd", leaf(0, "Data", "abcd"), leaf(0, "Data", "abcd")), "abcd")
}

// 15.1: an element whose text is its own kid's, too, is not right, so it has no table.
func TestTableOwnKid(t *testing.T) {
	e := api.Elem{Name: "Data", Text: "abcd", Kids: []api.Elem{leaf(0, "Data", "abcd")}}
	tables(t, "a text that is its own kid's", e)
	refusesElem(t, "a text that is its own kid's", e, api.ErrState)
}

// 15.1: a text stands in the table once, where it comes first, whether it is a name, a text or both.
func TestTableOrder(t *testing.T) {
	tables(t, "name ahead of text", node(0, "Sync", leaf(0, "Any", "abcd"), leaf(0, "Any", "abcd")), "Any", "abcd")
	tables(t, "an element ahead of its kids", node(0, "Zzz", node(0, "Yyy", leaf(0, "Xxx", "")), leaf(0, "Www", "")), "Zzz", "Yyy", "Xxx", "Www")
	tables(t, "a kid's kids ahead of the next kid", node(0, "Sync", node(0, "Item", leaf(0, "Data", "text2"), leaf(0, "Aaa", "")), leaf(0, "Data", "text1"), leaf(0, "Bbb", "text2"), leaf(0, "Data", "text1")), "text2", "Aaa", "text1", "Bbb")
	tables(t, "not by letters", node(0, "Sync", leaf(0, "Zzz", "yyyy"), leaf(0, "Aaa", "bbbb"), leaf(0, "Mmm", "bbbb"), leaf(0, "Nnn", "yyyy")), "Zzz", "yyyy", "Aaa", "bbbb", "Mmm", "Nnn")
	tables(t, "a text first, that is a name", node(0, "Sync", leaf(0, "Data", "Abcd"), leaf(0, "Data", "Efgh"), leaf(0, "Data", "Abcd"), leaf(0, "Efgh", ""), leaf(0, "Abcd", "")), "Abcd", "Efgh")
	tables(t, "a name first, that is a text", node(0, "Sync", leaf(0, "Abcd", ""), leaf(0, "Efgh", "Efgh"), leaf(0, "Data", "Abcd")), "Abcd", "Efgh")
	tables(t, "a name that is its own text, twice", node(0, "Sync", leaf(0, "Abcd", "Abcd"), leaf(0, "Abcd", "Abcd")), "Abcd")
	tables(t, "a name that is a text of one element, behind it", node(0, "Sync", leaf(0, "Data", "Abcd"), leaf(0, "Zzz", ""), leaf(0, "Abcd", "")), "Zzz", "Abcd")
	tables(t, "a token's name as a text of two", node(0, "Sync", leaf(0, "Data", "Sync"), leaf(0, "Data", "Sync")), "Sync")
}

// 15.1: an element that is not right has no table, and no document.
func TestNotRight(t *testing.T) {
	for what, one := range sample.WrongElems() {
		if got := tree.Check(one.Elem); got != one.Wrong {
			t.Fatalf("%s: %v, not %v", what, got, one.Wrong)
		}
		tables(t, what, one.Elem)
		refusesElem(t, what, one.Elem, one.Wrong)
		if one.Wrong != api.ErrDeep {
			around := node(0, "Any", leaf(0, "Data", "abcd"), leaf(0, "Data", "abcd"), one.Elem)
			tables(t, what+", within", around)
			refusesElem(t, what+", within", around, tree.Check(around))
		}
	}
	// What is wrong with the element comes ahead of how long its document would be.
	long := node(0, "Sync", slices.Repeat([]api.Elem{holder(0, "Data", strings.Repeat("b", mostText))}, 4)...)
	refusesElem(t, "too long", long, api.ErrLong)
	long.Kids[3].Page = 3
	refusesElem(t, "too long, with a page that is none", long, api.ErrKind)
}

// ofSize is an element whose document has this many bytes, by texts that are not in the table.
func ofSize(t *testing.T, size int) api.Elem {
	t.Helper()
	left := size - len(doc("", "\x45\x01")) - 3*len("\x4f\x03\x00\x01")
	e := node(0, "Add")
	for _, letter := range []string{"a", "b", "c"} {
		text := strings.Repeat(letter, min(left, mostText))
		e.Kids = append(e.Kids, leaf(0, "Data", text))
		left -= len(text)
	}
	if left != 0 || len(writeWords(e)) != size {
		t.Fatalf("no element of %d bytes: %d", size, len(writeWords(e)))
	}
	return e
}

// 15.1: a document has at most MaxDoc bytes.
func TestWriteLong(t *testing.T) {
	for _, size := range []int{mostDoc - 1, mostDoc} {
		e := ofSize(t, size)
		writes(t, "long", e, writeWords(e))
	}
	for _, size := range []int{mostDoc + 1, mostDoc + 2, mostDoc + 12} {
		refusesElem(t, "too long", ofSize(t, size), api.ErrLong)
	}
	// Of a text that is in the table the length counts once, of others each time.
	text := strings.Repeat("a", 2000)
	e := node(0, "Sync", slices.Repeat([]api.Elem{leaf(0, "Data", text)}, 200)...)
	writes(t, "a text of 200", e, doc(text+"\x00", "\x6a"+strings.Repeat("\x4f\x83\x00\x01", 200)+"\x01"))
	for i := range e.Kids {
		e.Kids[i].Opaque = true
	}
	refusesElem(t, "bytes of 200", e, api.ErrLong)
	// The longest that an element's document can be is far longer.
	far := node(0, "Sync", slices.Repeat([]api.Elem{node(0, "Item", slices.Repeat([]api.Elem{holder(0, "Data", strings.Repeat("\xff", mostText))}, 198)...)}, 10)...)
	refusesElem(t, "eight million bytes", far, api.ErrLong)
	if got := wbxml.Table(node(0, "Sync", leaf(0, "Any", ""), far)); !slices.Equal(got, []string{"Any"}) {
		t.Errorf("Table of an element whose document is too long: %.100q", got)
	}
}

// 15.1: a page is named where it is another one than the one that was named last, at first 0.
func TestWritePages(t *testing.T) {
	writes(t, "page 0", leaf(0, "Sync", ""), doc("", "\x2a"))
	writes(t, "page 1", leaf(1, "Size", ""), doc("", "\x00\x01\x12"))
	writes(t, "page 2", leaf(2, "Size", ""), doc("", "\x00\x02\x1c"))
	writes(t, "the same page again", node(1, "MetInf", leaf(1, "Size", ""), leaf(1, "Type", "")), doc("", "\x00\x01\x4e\x12\x13\x01"))
	writes(t, "there", node(0, "Meta", leaf(1, "Size", ""), leaf(1, "Type", "")), doc("", "\x5a\x00\x01\x12\x13\x01"))
	writes(t, "there and back", node(0, "Meta", leaf(1, "Size", ""), leaf(0, "Data", "")), doc("", "\x5a\x00\x01\x12\x00\x00\x0f\x01"))
	writes(t, "behind kids of another page", node(0, "Item", node(0, "Meta", leaf(1, "Size", "")), leaf(0, "Data", ""), leaf(1, "Size", "")), doc("", "\x54\x5a\x00\x01\x12\x01\x00\x00\x0f\x00\x01\x12\x01"))
	writes(t, "the page of the one ahead, not of the one around", node(0, "Item", node(0, "Meta", leaf(2, "Size", "")), leaf(2, "Man", "")), doc("", "\x54\x5a\x00\x02\x1c\x01\x11\x01"))
	writes(t, "all pages", node(2, "DevInf", leaf(1, "Size", ""), leaf(0, "Data", ""), leaf(2, "Size", "")), doc("", "\x00\x02\x4a\x00\x01\x12\x00\x00\x0f\x00\x02\x1c\x01"))
	writes(t, "a name in the table, on page 1", leaf(1, "Any", ""), doc("Any\x00", "\x00\x01\x04\x00"))
	writes(t, "a name in the table, on two pages", node(1, "Any", leaf(2, "Any", ""), leaf(2, "Any", ""), leaf(0, "Any", "")), doc("Any\x00", "\x00\x01\x44\x00\x00\x02\x04\x00\x04\x00\x00\x00\x04\x00\x01"))
	writes(t, "a name that just one page has a token of", node(1, "Size", leaf(0, "Size", ""), leaf(2, "Size", "")), doc("Size\x00", "\x00\x01\x52\x00\x00\x04\x00\x00\x02\x1c\x01"))
}

// 15.1: a token, and a name in the table, each with and without a text or kids.
func TestWriteNames(t *testing.T) {
	kid := leaf(0, "Add", "")
	writes(t, "a token", leaf(0, "Sync", ""), doc("", "\x2a"))
	writes(t, "a token, with a text", leaf(0, "Sync", "a"), doc("", "\x6a\x03a\x00\x01"))
	writes(t, "a token, with bytes", holder(0, "Sync", "a"), doc("", "\x6a\xc3\x01a\x01"))
	writes(t, "a token, with a kid", node(0, "Sync", kid), doc("", "\x6a\x05\x01"))
	writes(t, "a token, with kids", node(0, "Sync", kid, kid, kid), doc("", "\x6a\x05\x05\x05\x01"))
	writes(t, "a name", leaf(0, "Any", ""), doc("Any\x00", "\x04\x00"))
	writes(t, "a name, with a text", leaf(0, "Any", "a"), doc("Any\x00", "\x44\x00\x03a\x00\x01"))
	writes(t, "a name, with bytes", holder(0, "Any", "a"), doc("Any\x00", "\x44\x00\xc3\x01a\x01"))
	writes(t, "a name, with a kid", node(0, "Any", kid), doc("Any\x00", "\x44\x00\x05\x01"))
	writes(t, "a list of kids without any", api.Elem{Name: "Sync", Kids: []api.Elem{}}, doc("", "\x2a"))
	writes(t, "the first token", leaf(2, "CTCap", ""), doc("", "\x00\x02\x05"))
	writes(t, "the last token", leaf(0, "MoreData", "a"), doc("", "\x74\x03a\x00\x01"))
	writes(t, "two names", node(0, "One", leaf(0, "Two", ""), leaf(0, "One", "")), doc("One\x00Two\x00", "\x44\x00\x04\x04\x04\x00\x01"))
	writes(t, "12 deep", nest(mostDeep), doc("", strings.Repeat("\x45", mostDeep-1)+"\x05"+strings.Repeat("\x01", mostDeep-1)))
	writes(t, "200 kids", node(0, "Sync", slices.Repeat([]api.Elem{kid}, mostKids)...), doc("", "\x6a"+strings.Repeat("\x05", mostKids)+"\x01"))
}

// 15.1: a text as it stands, one in the table, one that is Opaque.
func TestWriteTexts(t *testing.T) {
	for _, text := range []string{"a", "abcd", "\t\n ", "\u00e9\u20ac", strings.Repeat("a", mostText)} {
		writes(t, "a text", leaf(0, "Data", text), doc("", "\x4f\x03"+text+"\x00\x01"))
	}
	for _, size := range []int{1, 2, 127, 128, 129, 300, mostText} {
		bytes := strings.Repeat("\x00", size)
		writes(t, "bytes", holder(0, "Data", bytes), doc("", "\x4f\xc3"+number(size)+bytes+"\x01"))
	}
	writes(t, "127 bytes", holder(0, "Data", strings.Repeat("\xff", 127)), doc("", "\x4f\xc3\x7f"+strings.Repeat("\xff", 127)+"\x01"))
	writes(t, "128 bytes", holder(0, "Data", strings.Repeat("\x01", 128)), doc("", "\x4f\xc3\x81\x00"+strings.Repeat("\x01", 128)+"\x01"))
	writes(t, "an empty text", node(0, "Sync", leaf(0, "Data", ""), leaf(0, "Data", "")), doc("", "\x6a\x0f\x0f\x01"))
	writes(t, "a text of two", node(0, "Sync", leaf(0, "Data", "abcd"), leaf(0, "Add", "abcd")), doc("abcd\x00", "\x6a\x4f\x83\x00\x01\x45\x83\x00\x01\x01"))
	writes(t, "a text of two, of 3 bytes", node(0, "Sync", leaf(0, "Data", "abc"), leaf(0, "Add", "abc")), doc("", "\x6a\x4f\x03abc\x00\x01\x45\x03abc\x00\x01\x01"))
	writes(t, "two texts of two", node(0, "Sync", leaf(0, "Data", "abcd"), leaf(0, "Data", "efghi"), leaf(0, "Data", "efghi"), leaf(0, "Data", "abcd")), doc("abcd\x00efghi\x00", "\x6a\x4f\x83\x00\x01\x4f\x83\x05\x01\x4f\x83\x05\x01\x4f\x83\x00\x01\x01"))
	writes(t, "a text that ends as another", node(0, "Sync", leaf(0, "Data", "xabcd"), leaf(0, "Data", "abcd"), leaf(0, "Data", "abcd"), leaf(0, "Data", "xabcd")), doc("xabcd\x00abcd\x00", "\x6a\x4f\x83\x00\x01\x4f\x83\x06\x01\x4f\x83\x06\x01\x4f\x83\x00\x01\x01"))
	writes(t, "a text of two, and Opaque", node(0, "Sync", holder(0, "Data", "abcd"), leaf(0, "Data", "abcd"), leaf(0, "Data", "abcd")), doc("abcd\x00", "\x6a\x4f\xc3\x04abcd\x01\x4f\x83\x00\x01\x4f\x83\x00\x01\x01"))
	writes(t, "a text of one, and Opaque", node(0, "Sync", holder(0, "Data", "abcd"), leaf(0, "Data", "abcd")), doc("", "\x6a\x4f\xc3\x04abcd\x01\x4f\x03abcd\x00\x01\x01"))
	writes(t, "a name and a text that are the same", node(0, "Sync", leaf(0, "Abcd", "Abcd"), leaf(0, "Data", "Abcd")), doc("Abcd\x00", "\x6a\x44\x00\x83\x00\x01\x4f\x83\x00\x01\x01"))
	// The table has it, as a name: so it is one of the table, though it is the text of just one element, and short.
	writes(t, "a text of one that is a name", node(0, "Sync", leaf(0, "Data", "Abcd"), leaf(0, "Abcd", "")), doc("Abcd\x00", "\x6a\x4f\x83\x00\x01\x04\x00\x01"))
	writes(t, "a short text that is a name", node(0, "Ab", leaf(0, "Data", "Ab")), doc("Ab\x00", "\x44\x00\x4f\x83\x00\x01\x01"))
	writes(t, "bytes that are a name", holder(0, "Ab", "Ab"), doc("Ab\x00", "\x44\x00\xc3\x02Ab\x01"))
}

// 15.1: an index of one byte, and of two.
func TestWriteIndex(t *testing.T) {
	for _, row := range []struct {
		size  int
		index string
	}{{4, "\x05"}, {126, "\x7f"}, {127, "\x81\x00"}, {128, "\x81\x01"}, {255, "\x82\x00"}, {mostText, "\x9f\x21"}} {
		long := strings.Repeat("a", row.size)
		e := node(0, "Sync", leaf(0, "Data", long), leaf(0, "Data", long), leaf(0, "Any", ""), leaf(0, "Other", "long"), leaf(0, "Any", "long"))
		head := long + "\x00Any\x00Other\x00long\x00"
		at := row.size + 1
		writes(t, "an index", e, doc(head, "\x6a\x4f\x83\x00\x01\x4f\x83\x00\x01\x04"+row.index+"\x44"+number(at+4)+"\x83"+number(at+10)+"\x01\x44"+row.index+"\x83"+number(at+10)+"\x01\x01"))
	}
	long := strings.Repeat("a", mostText)
	other := strings.Repeat("b", mostText)
	e := node(0, "Sync", leaf(0, "Data", long), leaf(0, "Data", long), leaf(0, "Data", other), leaf(0, "Data", other), leaf(0, "Any", ""))
	writes(t, "an index above 8000", e, doc(long+"\x00"+other+"\x00Any\x00", "\x6a\x4f\x83\x00\x01\x4f\x83\x00\x01\x4f\x83\x9f\x21\x01\x4f\x83\x9f\x21\x01\x04\xbe\x42\x01"))
}

// What is handed in stays as it is; what Table hands out is nobody else's.
func TestWriteKept(t *testing.T) {
	e := node(0, "Any", leaf(1, "Size", "abcd"), node(0, "Item", leaf(0, "Data", "abcd"), holder(2, "Other", "\x00")))
	before := copyOf(e)
	table := wbxml.Table(e)
	table[0], table[1] = "spoilt", "spoilt"
	_ = append(table[:1:cap(table)], "spoilt")
	tables(t, "again", e, "Any", "abcd", "Other")
	writes(t, "again", e, writeWords(e))
	if !same(e, before) {
		t.Errorf("what was handed in is %v", e)
	}
}

// P1: elements that lie within themselves have no document, and no table.
func TestWriteRings(t *testing.T) {
	for shape, e := range sample.ElemRings() {
		tables(t, shape, e)
		want := tree.Check(e)
		if want == api.OK {
			t.Errorf("%s: right", shape)
		}
		refusesElem(t, shape, e, want)
	}
	// A list that stands at many places
	shared := []api.Elem{leaf(0, "Data", "abcd"), leaf(0, "Any", "")}
	for range 8 {
		shared = []api.Elem{node(0, "Item", shared...), node(1, "Any", shared...)}
	}
	e := node(0, "Sync", shared...)
	tables(t, "a list at many places", e, "abcd", "Any")
	writes(t, "a list at many places", e, writeWords(e))
}
