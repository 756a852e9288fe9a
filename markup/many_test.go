package markup_test

import (
	"encoding/base64"
	"encoding/xml"
	"io"
	"slices"
	"strings"
	"testing"

	"cardcase/api"
	"cardcase/markup"
	"cardcase/sample"
	"cardcase/tree"
	"cardcase/vocab"
	"cardcase/wbxml"
)

// told holds Read of any text against 16.2, said once more; what is read may be written, if it is not too long, and is read as the same again. It tells whether the text is a document.
func told(t *testing.T, s string) bool {
	t.Helper()
	got, at, wrong := markup.Read(s)
	want, wantAt, wantWrong := readWords(s)
	if !same(got, want) || at != wantAt || wrong != wantWrong {
		t.Errorf("Read of %.300q: %.60v, %v at %d, not %.60v, %v at %d", s, got, wrong, at, want, wantWrong, wantAt)
	}
	if wrong == api.OK {
		again(t, got)
	}
	return wrong == api.OK
}

// again holds that an element is written as 16.1 has it, and read as it was.
func again(t *testing.T, e api.Elem) {
	t.Helper()
	want := writeWords(e)
	if len(want) > mostDoc {
		refusesElem(t, "too long", e, api.ErrLong)
		return
	}
	writes(t, "any", e, want)
	reads(t, "any", want, e)
}

// both holds that both encodings say the same of an element.
func both(t *testing.T, e api.Elem) {
	t.Helper()
	marks, wrong := markup.Write(e)
	tokens, wrongTokens := wbxml.Write(e)
	if wrong != api.OK || wrongTokens != api.OK {
		t.Errorf("%.100v: %v as marks, %v as tokens", e, wrong, wrongTokens)
	}
	fromMarks, _, wrong := markup.Read(marks)
	fromTokens, _, wrongTokens := wbxml.Read(tokens)
	if wrong != api.OK || wrongTokens != api.OK || !same(fromMarks, fromTokens) || !same(fromMarks, e) {
		t.Errorf("%.100v: as marks %.100v, %v, as tokens %.100v, %v", e, fromMarks, wrong, fromTokens, wrongTokens)
	}
}

// parsed is a document's element as a reader of any XML has it; the pages are those of the namespaces.
func parsed(t *testing.T, s string) api.Elem {
	t.Helper()
	d := xml.NewDecoder(strings.NewReader(s))
	open := []api.Elem{{}}
	for {
		token, err := d.Token()
		if err == io.EOF {
			return open[0].Kids[0]
		}
		if err != nil {
			t.Fatalf("%.200q: %v", s, err)
		}
		last := len(open) - 1
		switch x := token.(type) {
		case xml.StartElement:
			e := api.Elem{Name: x.Name.Local, Page: max(slices.Index(spaces, x.Name.Space), 0)}
			for _, a := range x.Attr {
				e.Opaque = e.Opaque || a.Name.Local == "enc"
			}
			open = append(open, e)
		case xml.CharData:
			open[last].Text += string(x)
		case xml.EndElement:
			e := open[last]
			if e.Opaque {
				bytes, err := base64.StdEncoding.DecodeString(e.Text)
				if err != nil {
					t.Errorf("%.200q: %v", s, err)
				}
				e.Text = string(bytes)
			}
			open[last-1].Kids = append(open[last-1].Kids, e)
			open = open[:last]
		}
	}
}

// 16.3: elements of each page, with each of its names, alone, with a text, with bytes, with kids of all pages.
func TestAgainPages(t *testing.T) {
	for page := range 3 {
		for _, name := range vocab.Each(page) {
			for other := range 3 {
				for _, e := range []api.Elem{
					leaf(other, name, ""), leaf(other, name, name), holder(other, name, name+"\x00"),
					node(other, name, leaf(page, name, "text"), leaf(other, "Other", "te<xt"), holder(1, name, "text"), leaf(0, name, "")),
				} {
					again(t, e)
					both(t, e)
				}
			}
		}
	}
}

// 16.1 and 16.3: many elements that are right; both encodings, and a reader of any XML, have the same of them.
func TestAgainMany(t *testing.T) {
	l := mixed(6000)
	if len(l) < 6000 {
		t.Fatalf("just %d elements", len(l))
	}
	count := map[string]int{}
	for _, e := range l {
		before := copyOf(e)
		again(t, e)
		both(t, e)
		if !same(e, before) {
			t.Errorf("what was handed in is %v", e)
		}
		s := writeWords(e)
		if got := parsed(t, s); !same(got, e) {
			t.Errorf("a reader of any XML has %v of %v", got, e)
		}
		for _, piece := range []string{"&amp;", "&lt;", "&gt;", "/>", `enc="b64"`, "SYNCML:SYNCML1.2", "syncml:metinf", "syncml:devinf", "\n", "\""} {
			count[piece] += strings.Count(s, piece)
		}
	}
	for piece, n := range count {
		if n < 400 {
			t.Errorf("%q just %d times", piece, n)
		}
	}
}

// 16.3: a text of each letter, and of many of them; bytes of each byte.
func TestAgainTexts(t *testing.T) {
	for letter := rune(0); letter <= 0x10ffff; letter++ {
		if letter > 0x3000 && letter < 0xd700 || letter > 0xe100 && letter < 0xff00 || letter > 0x10100 && letter < 0x10ff00 || letter >= 0xd800 && letter < 0xe000 {
			continue
		}
		e := leaf(0, "Data", "a"+string(letter))
		if letter < 32 && letter != '\t' && letter != '\n' {
			refusesElem(t, "no letter of a text", e, api.ErrField)
			continue
		}
		again(t, e)
	}
	for _, b := range sample.Bytes() {
		again(t, holder(0, "Data", b))
		again(t, holder(1, "Data", b+b+b+b))
	}
	for _, text := range append(sample.Texts("<&>;a#", 4), sample.Texts("]>-<![ \n", 4)...) {
		if text != "" {
			again(t, leaf(0, "Data", text))
			again(t, holder(2, "Data", text))
		}
	}
}

// 16.1: elements of which most are not right.
func TestWriteMixed(t *testing.T) {
	for _, letters := range sample.Mixed(3000, 20, []string{"A", "B.", "C", ".", "x", "v", "o", "p", "\x00.", "\xff", "E\x01", "-n", "nnnnnnnnnnnnnnnnn", "<", "&."}) {
		e := sample.Elem(letters)
		if want := tree.Check(e); want != api.OK {
			refusesElem(t, letters, e, want)
			continue
		}
		again(t, e)
	}
}

// docs are documents, short ones, that have all that a document may have.
func docs() []string {
	return []string{
		"<a/>", "<a></a>", "<ab>c</ab>", "<?xml?><a/>", " <a > </a\t> ",
		`<?xml version="1.0"?><a xmlns="syncml:metinf" enc="b64">YQ==</a>`,
		`<a enc="b64" xmlns="syncml:devinf"><![CDATA[YQ]]>&#61;=</a>`,
		"<a>b&amp;&lt;&gt;&quot;&apos;&#65;&#0000066;c</a>",
		"<a><![CDATA[<&]]]]><!-- < & --></a>",
		`<a><b xmlns="SYNCML:SYNCML1.2"><c1/> <d>e</d></b>&#32;<f enc="b64"/></a>`,
		strings.Repeat("<a>", 11) + "<b>c</b>" + strings.Repeat("</a>", 11),
		writeWords(node(0, "Sync", leaf(0, "Data", "a<b"), leaf(1, "Size", "5"), holder(2, "Any", "abcd"))),
		"<a>" + strings.Repeat("<b/>", 12) + "</a>",
	}
}

// 16.2, P1: documents cut off at each byte, with a byte more and a byte less at each place, and with each byte another one.
func TestReadSpoilt(t *testing.T) {
	for _, s := range docs() {
		if !told(t, s) {
			t.Errorf("no document: %q", s)
		}
		for at := range len(s) {
			told(t, s[:at])
			told(t, s[at:])
			told(t, s[:at]+s[at+1:])
			told(t, s[:at]+s)
			told(t, s[:at]+s[at:at+1]+s[at:])
			for _, b := range sample.Bytes() {
				told(t, s[:at]+b+s[at+1:])
				told(t, s[:at]+b+s[at:])
				told(t, s[:at]+b)
			}
		}
		for _, b := range sample.Bytes() {
			told(t, s+b)
		}
	}
}

// 16.2, P1: pieces of documents at each place of a document, and far too long ones.
func TestReadFar(t *testing.T) {
	pieces := []string{
		"<", "</", "<!--", "-->", "<![CDATA[", "]]>", "<?xml", "?>", "/>", "<a>", "</a>", "<b/>", "<b", "&", "&amp;", "&amp", "&#", "&#9;", "&#13;", "&#0;", "&#55296;", "&#10000000;", ` xmlns="`, ` xmlns="syncml:metinf"`, ` xmlns="syncml:metin"`, ` enc="b64"`, ` enc="`, ` enc="b6"`, `xmlns="syncml:devinf"`, "\"", "é", "\r\n", "  ", "<!-- --><![CDATA[]]>",
		strings.Repeat("<", 40), strings.Repeat("<a>", 13), strings.Repeat("<b/>", 201), strings.Repeat("&", 40), strings.Repeat("a", 33), strings.Repeat("a", 5000), strings.Repeat(" ", 5000), strings.Repeat("&lt;", 1200), `<c xmlns="` + strings.Repeat("a", 5000) + `"/>`,
	}
	for _, s := range docs() {
		for at := range len(s) + 1 {
			for _, piece := range pieces {
				told(t, s[:at]+piece+s[at:])
				told(t, s[:at]+piece)
			}
		}
	}
	for _, b := range append(sample.Bytes(), pieces...) {
		for _, head := range []string{"", "<", "<a", "<a ", "<a>", "<a><b/>", "<a>&", "<a>&#", "<a><!--", "<a><![CDATA[", "</", "<a></a", "<a></a>", `<a enc="b64">`, `<a enc="`, `<a xmlns="`, "<?xml", "<?xml ?>"} {
			told(t, head+strings.Repeat(b, (mostDoc-len(head))/len(b)))
		}
	}
}

// 16.2, P1: many texts that nearly are documents.
func TestReadMixed(t *testing.T) {
	right := 0
	for _, pieces := range [][]string{
		{"<b>", "</b>", "<b/>", "<c>", "</c>", "<c />", " ", "\n", "x", "&amp;", "<!--y-->", "<![CDATA[z]]>", `<b enc="b64">YQ==</b>`, `<d xmlns="syncml:metinf">`, "</d>"},
		{"<b>", "</b>", "<b>", "</b>", "<b><c/></b>", "<c>", "</c>", " ", "<!--<-->"},
		{"<b", "<c", "/>", ">", " ", "</b>", "</c>", ` enc="b64"`, ` xmlns="syncml:metinf"`, ` xmlns="syncml:devinf"`, "YQ=="},
		{"<", ">", "/", "a", "b", " ", "&", ";", "#", "!", "-", "[", "]", "\"", "=", "9"},
		{"&", "#", "1", "0", "9", "32", "55296", "1114111", ";", "amp", "lt", "gt;", "&#65;", "&amp;", "x", "<![CDATA[", "]]>"},
		{"<!--", "-->", "-", "<![CDATA[", "]]>", "]", ">", "<", "x", "<b/>"},
		{"Y", "Q", "=", "==", "YQ==", "YWFh", " ", "&#61;", "&#13;", "<!--=-->", "<![CDATA[Y]]>", ".", "<b/>"},
	} {
		for _, body := range sample.Mixed(8000, 10, pieces) {
			for _, s := range []string{body, "<a>" + body + "</a>", `<a enc="b64">` + body + "</a>", "<b" + body + "</b>", "<?xml " + body + "?><b>" + body + "</b> "} {
				if told(t, s) {
					right++
				}
			}
		}
	}
	if right < 20000 {
		t.Errorf("just %d texts were documents", right)
	}
}
