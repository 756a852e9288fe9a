package markup_test

import (
	"encoding/base64"
	"regexp"
	"slices"
	"strconv"
	"strings"
	"unicode/utf8"

	"cardcase/api"
	"cardcase/sample"
	"cardcase/sixbit"
	"cardcase/tree"
)

// The chapter's numbers, said once more.
const (
	mostDoc  = 12000
	mostText = 4000
	mostKids = 200
	mostDeep = 12
)

// Elements by no call of the program.
var (
	node   = sample.Node
	leaf   = sample.Leaf
	holder = sample.Holder
	nest   = sample.Nest
	same   = sample.SameElem
	copyOf = sample.CopyElem
)

// spaces are the pages' namespaces.
var spaces = []string{"SYNCML:SYNCML1.2", "syncml:metinf", "syncml:devinf"}

// doc is a document with this element.
func doc(element string) string { return `<?xml version="1.0"?>` + element }

// escapeWords is a text as it stands, said once more.
func escapeWords(s string) string {
	return strings.NewReplacer("&", "&amp;", "<", "&lt;", ">", "&gt;").Replace(s)
}

// writeWords is an element's document, however long, said once more.
func writeWords(e api.Elem) string { return doc(elemWords(e, 0)) }

// elemWords is an element of a document that stands within one of a page.
func elemWords(e api.Elem, around int) string {
	mark := e.Name
	if e.Page != around {
		mark += ` xmlns="` + spaces[e.Page] + `"`
	}
	within := escapeWords(e.Text)
	if e.Opaque {
		mark += ` enc="b64"`
		within = base64.StdEncoding.EncodeToString([]byte(e.Text))
	}
	for _, kid := range e.Kids {
		within += elemWords(kid, e.Page)
	}
	if within == "" {
		return "<" + mark + "/>"
	}
	return "<" + mark + ">" + within + "</" + e.Name + ">"
}

// A fault is something that is wrong, and where.
type fault struct {
	at int
	e  api.Errno
}

// opened is an element whose end was not come to yet, and its text, as far as it was said.
type opened struct {
	e         api.Elem
	isEncoded bool
	text      string
}

// A reading goes through a document; a fault is what it found wrong, and where: then it is over.
type reading struct {
	s     string
	at    int
	open  []opened
	wrong fault
}

var (
	headWords  = regexp.MustCompile(`\A<\?xml(?s:.*?)\?>`)
	spaceWords = regexp.MustCompile(`\A[ \t\r\n]*`)
	beginWords = regexp.MustCompile(`\A<([A-Za-z0-9]*)`)
	nameWords  = regexp.MustCompile(`\A[A-Za-z][A-Za-z0-9]{0,31}\z`)
	// attrWords has, behind space, how a mark ends, or an attribute's name, and its value with the quotation mark behind that.
	attrWords = regexp.MustCompile(`\A([ \t\r\n]*)(?:(/?>)|(xmlns|enc)="([^"]*"?))?`)
	kidWords  = regexp.MustCompile(`\A<[A-Za-z]`)
	endWords  = regexp.MustCompile(`\A</([A-Za-z0-9]*)([ \t\r\n]*)(>?)`)
	// pieceWords has one of these: a word, a number, what a CDATA holds, a comment, letters.
	pieceWords = regexp.MustCompile(`\A(?:&(amp|lt|gt|quot|apos);|&#([0-9]{1,7});|<!\[CDATA\[((?s:.*?))\]\]>|<!--(?s:.*?)-->|([^<&]+))`)
)

// words are the letters that the five words say.
var words = map[string]string{"amp": "&", "lt": "<", "gt": ">", "quot": "\"", "apos": "'"}

// fail keeps what is wrong; it answers false.
func (r *reading) fail(at int, e api.Errno) bool {
	r.wrong = fault{at, e}
	return false
}

// take takes what a pattern finds, which stands at the reading's place.
func (r *reading) take(words *regexp.Regexp) []string {
	found := words.FindStringSubmatch(r.s[r.at:])
	if found != nil {
		r.at += len(found[0])
	}
	return found
}

// readWords is 16.2, said once more.
func readWords(s string) (api.Elem, int, api.Errno) {
	r := &reading{s: s}
	e, isRight := r.document()
	if isRight {
		if e := tree.Check(e); e != api.OK {
			isRight = r.fail(0, e)
		}
	}
	if !isRight {
		return api.Elem{}, r.wrong.at, r.wrong.e
	}
	return e, 0, api.OK
}

// document is the document's element, and whether nothing is wrong.
func (r *reading) document() (api.Elem, bool) {
	none := api.Elem{}
	switch {
	case len(r.s) > mostDoc:
		return none, r.fail(0, api.ErrLong)
	case !utf8.ValidString(r.s):
		return none, r.fail(0, api.ErrCharset)
	case strings.HasPrefix(r.s, "<?xml") && r.take(headWords) == nil:
		return none, r.fail(len(r.s), api.ErrShort)
	}
	r.take(spaceWords)
	if r.at == len(r.s) {
		return none, r.fail(r.at, api.ErrShort)
	}
	if r.s[r.at] != '<' {
		return none, r.fail(r.at, api.ErrField)
	}
	e, isWhole, isRight := r.begin()
	for isRight && !isWhole {
		e, isWhole, isRight = r.next()
	}
	if !isRight {
		return none, false
	}
	r.take(spaceWords)
	if r.at < len(r.s) {
		return none, r.fail(r.at, api.ErrMore)
	}
	return e, true
}

// begin takes an element's mark; it tells the outermost element, if that is whole then, and whether nothing is wrong.
func (r *reading) begin() (e api.Elem, isWhole, isRight bool) {
	at := r.at + 1
	e.Name = r.take(beginWords)[1]
	if !nameWords.MatchString(e.Name) {
		return e, false, r.fail(at, api.ErrName)
	}
	if len(r.open) > 0 {
		e.Page = r.open[len(r.open)-1].e.Page
	}
	had := map[string]bool{}
	for {
		found := r.take(attrWords)
		apart, end, name, value := found[1], found[2], found[3], found[4]
		at := r.at - len(found[0]) + len(apart)
		switch {
		case end != "":
			r.open = append(r.open, opened{e: e, isEncoded: had["enc"]})
			if end == "/>" {
				e, isWhole = r.end()
			}
			return e, isWhole, true
		case apart == "" || name == "":
			return e, false, r.fail(at, api.ErrField)
		case had[name]:
			return e, false, r.fail(at, api.ErrTwice)
		case !strings.HasSuffix(value, `"`):
			return e, false, r.fail(len(r.s), api.ErrShort)
		}
		had[name] = true
		value = value[:len(value)-1]
		if name == "xmlns" {
			e.Page = slices.Index(spaces, value)
		}
		if name == "xmlns" && e.Page < 0 || name == "enc" && value != "b64" {
			return e, false, r.fail(at, api.ErrKind)
		}
	}
}

// end ends the innermost element; if it is the outermost one, too, it tells it.
func (r *reading) end() (api.Elem, bool) {
	last := r.open[len(r.open)-1].e
	r.open = r.open[:len(r.open)-1]
	if len(r.open) == 0 {
		return last, true
	}
	around := &r.open[len(r.open)-1].e
	around.Kids = append(around.Kids, last)
	return api.Elem{}, false
}

// next goes on with what comes next within the innermost element; it tells the outermost one, if that is whole then, and whether nothing is wrong.
func (r *reading) next() (e api.Elem, isWhole, isRight bool) {
	in := &r.open[len(r.open)-1]
	rest := r.s[r.at:]
	switch {
	case rest == "":
		return e, false, r.fail(r.at, api.ErrShort)
	case strings.HasPrefix(rest, "</"):
		return r.close(in)
	case kidWords.MatchString(rest):
		switch {
		case len(r.open) == mostDeep:
			return e, false, r.fail(r.at, api.ErrDeep)
		case len(in.e.Kids) == mostKids:
			return e, false, r.fail(r.at, api.ErrFull)
		}
		return r.begin()
	}
	found := r.take(pieceWords)
	switch {
	case found == nil && (strings.HasPrefix(rest, "<![CDATA[") || strings.HasPrefix(rest, "<!--")):
		return e, false, r.fail(len(r.s), api.ErrShort)
	case found == nil:
		return e, false, r.fail(r.at, api.ErrField)
	case found[2] != "":
		n, _ := strconv.Atoi(found[2])
		if n < 32 && n != 9 && n != 10 && n != 13 || n >= 0xd800 && n < 0xe000 || n > 0x10ffff {
			return e, false, r.fail(r.at-len(found[0]), api.ErrRange)
		}
		in.text += string(rune(n))
	}
	in.text += words[found[1]] + found[3] + found[4]
	return e, false, true
}

// close takes the innermost element's end.
func (r *reading) close(in *opened) (e api.Elem, isWhole, isRight bool) {
	at := r.at
	found := r.take(endWords)
	switch {
	case found[1] != in.e.Name:
		return e, false, r.fail(at+2, api.ErrEnd)
	case found[3] == "" && r.at == len(r.s):
		return e, false, r.fail(r.at, api.ErrShort)
	case found[3] == "":
		return e, false, r.fail(r.at, api.ErrField)
	case len(in.e.Kids) > 0:
		if in.isEncoded || spaceWords.FindString(in.text) != in.text {
			return e, false, r.fail(at, api.ErrState)
		}
		in.text = ""
	case in.isEncoded:
		bytes, wrong := sixbit.Decode(in.text)
		if wrong != api.OK {
			return e, false, r.fail(at, wrong)
		}
		in.text = bytes
		in.e.Opaque = len(bytes) > 0
	}
	in.e.Text = in.text
	e, isWhole = r.end()
	return e, isWhole, true
}

// mixed are some count elements of all kinds that are right.
func mixed(count int) []api.Elem {
	l := sample.Elems(count)
	for _, pieces := range [][]string{
		{"A", "B", "C<.", "D&.", "E>.", "Fp\"'.", "App a b .", "Bp&amp;.", "C]]>.", "D-->.", "E</Private>.", "F\té\n.", "Bo.", "..", "."},
		{"A\x00o.", "B\xffo.", "C<&>o.", "D\r\no.", "Eabc=o.", "Fzzo.", "App", "Bp", "C", "..", "."},
		{"A\x7f.", "B\u0080.", "C\u20ac\U0001f600.", "D\U0010ffff.", "E&#65;.", "F<!--x-->.", "A<![CDATA[.", "B ", "Cppx", "..", ".", "Dn"},
	} {
		for _, letters := range sample.Mixed(count/4, 16, pieces) {
			l = append(l, sample.Elem(letters))
		}
	}
	return slices.DeleteFunc(l, func(e api.Elem) bool { return tree.Check(e) != api.OK })
}
