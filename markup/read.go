package markup

import (
	"strconv"
	"strings"
	"unicode/utf8"

	"cardcase/api"
	"cardcase/charset"
	"cardcase/sixbit"
	"cardcase/tree"
	"cardcase/vocab"
)

const (
	space   = " \t\n\r"
	digits  = "0123456789"
	letters = "ABCDEFGHIJKLMNOPQRSTUVWXYZabcdefghijklmnopqrstuvwxyz"
	// mostDigits are as many as a letter's number may have.
	mostDigits = 7
)

// Read is a document's element; else the place of what is wrong.
func Read(s string) (api.Elem, int, api.Errno) {
	e, found := read(s)
	if found.wrong == api.OK {
		found.wrong = tree.Check(e)
	}
	if found.wrong != api.OK {
		return api.Elem{}, found.at, found.wrong
	}
	return e, 0, api.OK
}

// fault is what is wrong with a document, and where; it leaves the reading by a panic.
type fault struct {
	at    int
	wrong api.Errno
}

// must leaves the reading with what is wrong at a place, if something is not so.
func must(isSo bool, at int, wrong api.Errno) {
	if !isSo {
		panic(fault{at, wrong})
	}
}

// read is a document's element, whatever tree.Check says of it; else no element, and what is wrong.
func read(s string) (e api.Elem, found fault) {
	defer func() {
		if f, isFault := recover().(fault); isFault {
			found = f
		}
	}()
	must(len(s) <= api.MaxDoc, 0, api.ErrLong)
	must(charset.Valid(s), 0, api.ErrCharset)
	d := &document{text: s}
	return d.whole(), fault{}
}

// document is a document that is read.
type document struct {
	text string
	at   int // how much of it was taken
}

// left is what was not taken yet.
func (d *document) left() string { return d.text[d.at:] }

// isNext tells whether a piece comes next.
func (d *document) isNext(piece string) bool { return strings.HasPrefix(d.left(), piece) }

// takes takes a piece, if it comes next, and tells whether it did.
func (d *document) takes(piece string) bool {
	isNext := d.isNext(piece)
	if isNext {
		d.at += len(piece)
	}
	return isNext
}

// needs takes a byte that must come next.
func (d *document) needs(b string) {
	must(d.left() != "", d.at, api.ErrShort)
	must(d.takes(b), d.at, api.ErrField)
}

// upTo takes all up to the next piece like this, and it, too: what stands ahead of it.
func (d *document) upTo(piece string) string {
	ahead, _, isThere := strings.Cut(d.left(), piece)
	must(isThere, len(d.text), api.ErrShort)
	d.at += len(ahead) + len(piece)
	return ahead
}

// row takes as many of these bytes as come next: these.
func (d *document) row(bytes string) string {
	from := d.at
	d.at = len(d.text) - len(strings.TrimLeft(d.left(), bytes))
	return d.text[from:d.at]
}

// whole is the element of which the document is.
func (d *document) whole() api.Elem {
	if d.takes("<?xml") {
		d.upTo("?>")
	}
	d.row(space)
	e := d.elem(vocab.SyncML, 1)
	d.row(space)
	must(d.left() == "", d.at, api.ErrMore)
	return e
}

// elem is the element that comes next, so deep, within one of this page.
func (d *document) elem(around, deep int) api.Elem {
	d.needs(opening)
	e := api.Elem{Page: around, Name: d.name()}
	isEncoded, isBare := d.mark(&e)
	if isBare {
		return e
	}
	text := d.within(&e, deep)
	at := d.at
	d.end(e.Name)
	switch {
	case len(e.Kids) > 0:
		must(!isEncoded && strings.Trim(text, space) == "", at, api.ErrState)
	case isEncoded:
		bytes, wrong := sixbit.Decode(text)
		must(wrong == api.OK, at, wrong)
		e.Text, e.Opaque = bytes, bytes != ""
	default:
		e.Text = text
	}
	return e
}

// name is the name with which an element begins.
func (d *document) name() string {
	at := d.at
	name := d.row(letters + digits)
	// Which names may be is tree's to say.
	must(tree.Check(tree.Leaf(vocab.SyncML, name, "")) == api.OK, at, api.ErrName)
	return name
}

// mark takes what an element's mark has behind the name: whether what is within is encoded, and whether there is nothing.
func (d *document) mark(e *api.Elem) (isEncoded, isBare bool) {
	isPaged := false
attributes:
	for {
		isApart := d.row(space) != ""
		at := d.at
		switch {
		case d.takes(bare):
			isBare = true
			break attributes
		case d.takes(closing):
			break attributes
		case isApart && d.takes(paged):
			must(!isPaged, at, api.ErrTwice)
			isPaged = true
			e.Page = vocab.Page(d.upTo(quote))
			must(e.Page >= 0, at, api.ErrKind)
		case isApart && d.takes(encoded):
			must(!isEncoded, at, api.ErrTwice)
			isEncoded = true
			must(d.upTo(quote) == inSixBit, at, api.ErrKind)
		default:
			must(false, at, api.ErrField)
		}
	}
	return isEncoded, isBare
}

// within takes what an element has that lies so deep, up to its end: its kids, and its text, which may stand among them.
func (d *document) within(e *api.Elem, deep int) string {
	var text strings.Builder
pieces:
	for {
		must(d.left() != "", d.at, api.ErrShort)
		switch {
		case d.isNext(ending):
			break pieces
		case d.takes("<![CDATA["):
			text.WriteString(d.upTo("]]>"))
		case d.takes("<!--"):
			d.upTo("-->")
		case d.isNext(opening):
			d.kid(e, deep)
		case d.isNext("&"):
			text.WriteString(d.word())
		default:
			text.WriteByte(d.text[d.at])
			d.at++
		}
	}
	return text.String()
}

// kid takes one more kid of an element that lies so deep.
func (d *document) kid(e *api.Elem, deep int) {
	behind := d.left()[len(opening):]
	isNamed := behind != "" && strings.IndexByte(letters, behind[0]) >= 0
	must(isNamed, d.at, api.ErrField)
	must(deep < api.MaxDepth, d.at, api.ErrDeep)
	must(len(e.Kids) < api.MaxKids, d.at, api.ErrFull)
	e.Kids = append(e.Kids, d.elem(e.Page, deep+1))
}

// end takes an element's end.
func (d *document) end(name string) {
	d.takes(ending)
	at := d.at
	must(d.row(letters+digits) == name, at, api.ErrEnd)
	d.row(space)
	d.needs(closing)
}

// word takes an & with what stands behind it, up to a ; : the letter that it says.
func (d *document) word() string {
	at := d.at
	word, _, isEnded := strings.Cut(d.left(), ";")
	must(isEnded, at, api.ErrField)
	d.at += len(word) + len(";")
	switch word {
	case "&amp":
		return "&"
	case "&lt":
		return "<"
	case "&gt":
		return ">"
	case "&quot":
		return `"`
	case "&apos":
		return "'"
	}
	number, isNumber := strings.CutPrefix(word, "&#")
	must(isNumber && areDigits(number), at, api.ErrField)
	n, _ := strconv.Atoi(number)
	must(mayStand(rune(n)), at, api.ErrRange)
	return string(rune(n))
}

// areDigits tells whether a text is a letter's number.
func areDigits(s string) bool {
	return s != "" && len(s) <= mostDigits && strings.Trim(s, digits) == ""
}

// mayStand tells whether a text may have a letter that is said by its number.
func mayStand(letter rune) bool {
	return (letter >= ' ' || strings.ContainsRune(space, letter)) && utf8.ValidRune(letter)
}
