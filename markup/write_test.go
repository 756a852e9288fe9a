package markup_test

import (
	"slices"
	"strings"
	"testing"

	"cardcase/api"
	"cardcase/markup"
	"cardcase/sample"
	"cardcase/tree"
)

// escapes holds a text as it stands against what it must be.
func escapes(t *testing.T, s, want string) {
	t.Helper()
	if got := markup.Escape(s); got != want {
		t.Errorf("Escape(%.100q): %.100q, not %.100q", s, got, want)
	}
}

// writes holds an element's document against what it must be.
func writes(t *testing.T, what string, e api.Elem, want string) {
	t.Helper()
	if got, wrong := markup.Write(e); got != want || wrong != api.OK {
		t.Errorf("Write, %s: %.200q, %v, not %.200q", what, got, wrong, want)
	}
}

// refusesElem holds that an element has no document, for this reason.
func refusesElem(t *testing.T, what string, e api.Elem, want api.Errno) {
	t.Helper()
	if got, wrong := markup.Write(e); got != "" || wrong != want {
		t.Errorf("Write, %s: %d bytes, %v, not %v", what, len(got), wrong, want)
	}
}

// The chapter's examples.
func TestExamples(t *testing.T) {
	const data, bare = `<?xml version="1.0"?><Data>a&lt;b</Data>`, `<?xml version="1.0"?><MetInf xmlns="syncml:metinf"/>`
	writes(t, "Data", tree.Leaf(0, "Data", "a<b"), data)
	writes(t, "MetInf", tree.Node(1, "MetInf"), bare)
	reads(t, "Data", data, tree.Leaf(0, "Data", "a<b"))
	reads(t, "MetInf", bare, tree.Node(1, "MetInf"))
}

// 16.1: Escape: three bytes are words, all others stay.
func TestEscape(t *testing.T) {
	for s, want := range map[string]string{
		"": "", "&": "&amp;", "<": "&lt;", ">": "&gt;", "<>&": "&lt;&gt;&amp;", "&<>": "&amp;&lt;&gt;", "a<b": "a&lt;b", "<<": "&lt;&lt;", "&&": "&amp;&amp;", ">>": "&gt;&gt;",
		"&amp;": "&amp;amp;", "&lt;": "&amp;lt;", "&gt;": "&amp;gt;", "&#60;": "&amp;#60;", "&amp;amp;": "&amp;amp;amp;", "amp;": "amp;", "lt;": "lt;",
		"\"": "\"", "'": "'", "\"'\"": "\"'\"", "<a b=\"c\">": "&lt;a b=\"c\"&gt;", "]]>": "]]&gt;", "<![CDATA[": "&lt;![CDATA[", "-->": "--&gt;", "<!--": "&lt;!--", "</a>": "&lt;/a&gt;",
		"\x00": "\x00", "\xff<\xff": "\xff&lt;\xff", "\xc3": "\xc3", "\xc3&\xa9": "\xc3&amp;\xa9", "\xed\xa0\x80": "\xed\xa0\x80", "é": "é", "\t\r\n ": "\t\r\n ", "\x7f": "\x7f",
	} {
		escapes(t, s, want)
	}
	for _, b := range sample.Bytes() {
		want := b
		switch b {
		case "&":
			want = "&amp;"
		case "<":
			want = "&lt;"
		case ">":
			want = "&gt;"
		}
		escapes(t, b, want)
		escapes(t, b+b+b, want+want+want)
		escapes(t, "a"+b+"&c", "a"+want+"&amp;c")
		escapes(t, "<"+b+">", "&lt;"+want+"&gt;")
	}
}

// 16.1: Escape of many texts, and of very long ones.
func TestEscapeMany(t *testing.T) {
	l := append(sample.Texts("&<>a;", 5), sample.Texts("&<>\xff\"\x00", 4)...)
	l = append(l, sample.Mixed(3000, 30, []string{"&", "<", ">", "amp;", "lt;", "gt;", "\"", "'", "é", "\xff", "\x00", "]]>", "a"})...)
	for _, s := range l {
		escapes(t, s, escapeWords(s))
	}
	for _, b := range []string{"&", "<", ">", "a", "\x00", "\xff"} {
		escapes(t, strings.Repeat(b, 1<<20), strings.Repeat(escapeWords(b), 1<<20))
	}
}

// 16.1: an element that is not right has no document.
func TestWriteWrong(t *testing.T) {
	for what, one := range sample.WrongElems() {
		if got := tree.Check(one.Elem); got != one.Wrong {
			t.Fatalf("%s: %v, not %v", what, got, one.Wrong)
		}
		refusesElem(t, what, one.Elem, one.Wrong)
		around := node(0, "Any", leaf(0, "Data", "abcd"), one.Elem)
		refusesElem(t, what+", within", around, tree.Check(around))
	}
	// What is wrong with the element comes ahead of how long its document would be.
	long := node(0, "Sync", slices.Repeat([]api.Elem{leaf(0, "Data", strings.Repeat("b", mostText))}, 4)...)
	refusesElem(t, "too long", long, api.ErrLong)
	long.Kids[3].Page = 3
	refusesElem(t, "too long, with a page that is none", long, api.ErrKind)
	for _, page := range []int{-1 << 63, -1, 3, 255, 256, 1<<63 - 1} {
		refusesElem(t, "a page that is none", leaf(page, "Data", ""), api.ErrKind)
		refusesElem(t, "a page that is none, within itself", node(page, "Data", leaf(page, "Data", "")), api.ErrKind)
	}
}

// P1: elements that lie within themselves have no document.
func TestWriteRings(t *testing.T) {
	for shape, e := range sample.ElemRings() {
		want := tree.Check(e)
		if want == api.OK {
			t.Errorf("%s: right", shape)
		}
		refusesElem(t, shape, e, want)
	}
	// A list that stands at many places
	shared := []api.Elem{leaf(0, "Data", "a&b"), leaf(0, "Any", "")}
	for range 7 {
		shared = []api.Elem{node(0, "I", shared...), node(1, "A", shared...)}
	}
	e := node(0, "Sync", shared...)
	writes(t, "a list at many places", e, writeWords(e))
}

// ofSize is an element whose document has this many bytes.
func ofSize(t *testing.T, size int) api.Elem {
	t.Helper()
	left := size - len(doc("<Add></Add>")) - 3*len("<Data></Data>")
	e := node(0, "Add")
	for _, letter := range []string{"a", "b", "c"} {
		text := strings.Repeat(letter, min(left, mostText))
		e.Kids = append(e.Kids, leaf(0, "Data", text))
		left -= len(text)
	}
	if left != 0 || len(writeWords(e)) != size {
		t.Fatalf("no element of %d bytes: %d", size, len(writeWords(e)))
	}
	return e
}

// 16.1: a document has at most MaxDoc bytes.
func TestWriteLong(t *testing.T) {
	for _, size := range []int{mostDoc - 1, mostDoc} {
		e := ofSize(t, size)
		writes(t, "long", e, writeWords(e))
	}
	for _, size := range []int{mostDoc + 1, mostDoc + 2, mostDoc + 20} {
		refusesElem(t, "too long", ofSize(t, size), api.ErrLong)
	}
	// The bytes that are written count, not those of the text.
	text := strings.Repeat("&", 2393)
	writes(t, "words, of 12000", leaf(0, "Data", text+"a"), doc("<Data>"+strings.Repeat("&amp;", 2393)+"a</Data>"))
	refusesElem(t, "words, of 12001", leaf(0, "Data", text+"ab"), api.ErrLong)
	refusesElem(t, "words, of 20034", leaf(0, "Data", strings.Repeat("&", mostText)), api.ErrLong)
	refusesElem(t, "words, of 16034", leaf(0, "Data", strings.Repeat("<", mostText)), api.ErrLong)
	bytes := strings.Repeat("\xff", mostText)
	writes(t, "bytes", holder(0, "Data", bytes), doc(`<Data enc="b64">`+strings.Repeat("/", 5333)+"w==</Data>"))
	refusesElem(t, "bytes of three", node(0, "Add", holder(0, "Data", bytes), holder(0, "Data", bytes), holder(0, "Data", bytes)), api.ErrLong)
	// The longest that an element's document can be is far longer.
	far := node(0, "Sync", slices.Repeat([]api.Elem{node(0, "Item", slices.Repeat([]api.Elem{leaf(0, "Data", strings.Repeat("&", mostText))}, 198)...)}, 10)...)
	refusesElem(t, "forty million bytes", far, api.ErrLong)
}

// 16.1: a page is named where it is another one than that of the element around, of the outermost where it is not 0.
func TestWritePages(t *testing.T) {
	const zero, one, two = ` xmlns="SYNCML:SYNCML1.2"`, ` xmlns="syncml:metinf"`, ` xmlns="syncml:devinf"`
	writes(t, "page 0", leaf(0, "A", ""), doc("<A/>"))
	writes(t, "page 1", leaf(1, "A", ""), doc("<A"+one+"/>"))
	writes(t, "page 2", leaf(2, "A", ""), doc("<A"+two+"/>"))
	writes(t, "page 2, with a text", leaf(2, "A", "a"), doc("<A"+two+">a</A>"))
	writes(t, "page 1, with bytes", holder(1, "A", "a"), doc("<A"+one+` enc="b64">YQ==</A>`))
	for page, named := range []string{"", one, two} {
		writes(t, "the same page within", node(page, "A", leaf(page, "B", ""), leaf(page, "C", "c"), holder(page, "D", "d")), doc("<A"+named+`><B/><C>c</C><D enc="b64">ZA==</D></A>`))
		writes(t, "the same page deep within", node(page, "A", node(page, "B", node(page, "C", leaf(page, "D", "")))), doc("<A"+named+"><B><C><D/></C></B></A>"))
	}
	writes(t, "there", node(0, "Meta", leaf(1, "Size", ""), leaf(1, "Type", "")), doc("<Meta><Size"+one+"/><Type"+one+"/></Meta>"))
	writes(t, "there and back", node(0, "Meta", leaf(1, "Size", ""), leaf(0, "Data", "")), doc("<Meta><Size"+one+"/><Data/></Meta>"))
	writes(t, "page 0 within another page", node(1, "A", leaf(0, "B", ""), leaf(1, "C", ""), leaf(0, "D", "d")), doc("<A"+one+"><B"+zero+"/><C/><D"+zero+">d</D></A>"))
	writes(t, "each within another", node(2, "A", node(1, "B", node(0, "C", leaf(2, "D", "")))), doc("<A"+two+"><B"+one+"><C"+zero+"><D"+two+"/></C></B></A>"))
	writes(t, "page 0 within page 0 within page 1", node(1, "A", node(0, "B", leaf(0, "C", ""), leaf(1, "D", ""))), doc("<A"+one+"><B"+zero+"><C/><D"+one+"/></B></A>"))
	writes(t, "the page of the one around, not of the one ahead", node(0, "A", node(1, "B", leaf(2, "C", "")), leaf(2, "D", "")), doc("<A><B"+one+"><C"+two+"/></B><D"+two+"/></A>"))
	writes(t, "a name that the page has not", leaf(1, "Sync", ""), doc("<Sync"+one+"/>"))
}

// 16.1: no text and no kids; a text; bytes; kids.
func TestWriteWithin(t *testing.T) {
	long := "N" + strings.Repeat("n", 31)
	writes(t, "nothing", leaf(0, "Data", ""), doc("<Data/>"))
	writes(t, "nothing, of a long name", leaf(0, long, ""), doc("<"+long+"/>"))
	writes(t, "a name of one letter", leaf(0, "a", "b"), doc("<a>b</a>"))
	writes(t, "a name with digits", leaf(0, "a09Z", "b"), doc("<a09Z>b</a09Z>"))
	writes(t, "a list of kids without any", api.Elem{Name: "Sync", Kids: []api.Elem{}}, doc("<Sync/>"))
	writes(t, "a list of kids without any, and a text", api.Elem{Name: "Sync", Text: "a", Kids: []api.Elem{}}, doc("<Sync>a</Sync>"))
	for text, want := range map[string]string{
		"a": "a", " ": " ", "\t\n ": "\t\n ", "a<b&c>d": "a&lt;b&amp;c&gt;d", "\"'": "\"'", "é€😀": "é€😀", "]]>": "]]&gt;", "&amp;": "&amp;amp;", "</Data>": "&lt;/Data&gt;", "YQ==": "YQ==", "\x7f\u0080": "\x7f\u0080",
	} {
		writes(t, "a text", leaf(0, "Data", text), doc("<Data>"+want+"</Data>"))
		writes(t, "a text of a kid", node(0, "Item", leaf(0, "Data", text)), doc("<Item><Data>"+want+"</Data></Item>"))
	}
	for bytes, want := range map[string]string{"a": "YQ==", "aa": "YWE=", "aaa": "YWFh", "\x00": "AA==", "\xff\xff": "//8=", "<&>": "PCY+", " ": "IA==", "\r\n": "DQo="} {
		writes(t, "bytes", holder(0, "Data", bytes), doc(`<Data enc="b64">`+want+"</Data>"))
		writes(t, "bytes of a kid", node(0, "Item", holder(0, "Data", bytes)), doc(`<Item><Data enc="b64">`+want+"</Data></Item>"))
	}
	writes(t, "kids", node(0, "Item", leaf(0, "A", ""), leaf(0, "B", "b"), node(0, "C", leaf(0, "A", "")), holder(0, "D", "d")), doc(`<Item><A/><B>b</B><C><A/></C><D enc="b64">ZA==</D></Item>`))
	writes(t, "12 deep", nest(mostDeep), doc(strings.Repeat("<Add>", mostDeep-1)+"<Add/>"+strings.Repeat("</Add>", mostDeep-1)))
	writes(t, "200 kids", node(0, "Sync", slices.Repeat([]api.Elem{leaf(0, "Add", "")}, mostKids)...), doc("<Sync>"+strings.Repeat("<Add/>", mostKids)+"</Sync>"))
}

// What is handed in stays as it is, and is not kept.
func TestWriteKept(t *testing.T) {
	e := node(0, "Any", leaf(1, "Size", "a<b"), node(0, "Item", leaf(0, "Data", "abcd"), holder(2, "Other", "\x00")))
	before := copyOf(e)
	want := writeWords(e)
	writes(t, "once", e, want)
	if !same(e, before) {
		t.Errorf("what was handed in is %v", e)
	}
	e.Kids[0].Text = "spoilt"
	writes(t, "another", e, writeWords(e))
	writes(t, "again", before, want)
}
