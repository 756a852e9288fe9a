package wbxml

import (
	"math"
	"strings"

	"cardcase/api"
	"cardcase/mbint"
	"cardcase/tree"
	"cardcase/vocab"
)

// Read is a document's element; else the place of what is wrong.
func Read(s string) (api.Elem, int, api.Errno) {
	if len(s) > api.MaxDoc {
		return api.Elem{}, 0, api.ErrLong
	}
	d := &document{Reader: mbint.New(s)}
	d.head()
	e := d.elem(d.first(), 1)
	if d.Left() > 0 {
		d.Fail(api.ErrMore)
	}
	if at, fault := d.Err(); fault != api.OK {
		return api.Elem{}, at - d.back, fault
	}
	if fault := tree.Check(e); fault != api.OK {
		return api.Elem{}, 0, fault
	}
	return e, 0, api.OK
}

// document is a document that is read. Once something is wrong nothing more is taken of it, and nothing else is found wrong.
type document struct {
	*mbint.Reader
	table string
	page  int // the one that was named last
	back  int // how far the place of what is wrong is ahead of the reader's
}

// isWell tells whether nothing is wrong yet.
func (d *document) isWell() bool {
	_, e := d.Err()
	return e == api.OK
}

// must holds that what was taken from a place on is of the kind that stands there; if it is not, that place is told, not the reader's.
func (d *document) must(at int, isKind bool) {
	if !isKind && d.isWell() {
		d.back = d.At() - at
		d.Fail(api.ErrKind)
	}
}

// head takes what is ahead of the element.
func (d *document) head() {
	d.must(d.At(), d.Byte() == version)
	d.must(d.At(), d.Number() == public)
	d.must(d.At(), d.Number() == letters)
	d.table = d.sized()
}

// sized is a number, and as many bytes: these.
func (d *document) sized() string {
	// No document has as many; and where an int has 32 bits a greater number would be one below 0.
	return d.Bytes(int(min(d.Number(), math.MaxInt32)))
}

// tabled is an index, and the table's text there: this.
func (d *document) tabled() string {
	at := d.Number()
	if uint64(at) >= uint64(len(d.table)) {
		d.Fail(api.ErrRange)
		return ""
	}
	text, _, found := strings.Cut(d.table[at:], "\x00")
	if !found {
		d.Fail(api.ErrShort)
		return ""
	}
	return text
}

// first takes an element's byte, or one ahead of it.
func (d *document) first() byte {
	b := d.Byte()
	d.begins(b)
	return b
}

// begins holds that the byte that was taken last is an element's, or one ahead of it.
func (d *document) begins(b byte) {
	name := b &^ filled
	d.must(d.At()-1, b == turn || name >= literal && name < filled)
}

// elem is the element, so deep, that begins with a byte that was taken.
func (d *document) elem(b byte, deep int) api.Elem {
	for b == turn && d.isWell() {
		at := d.At()
		d.page = int(d.Byte())
		d.must(at, vocab.Space(d.page) != "")
		b = d.first()
	}
	e := api.Elem{Page: d.page, Name: d.name(b &^ filled)}
	if b&filled != 0 {
		d.within(&e, deep)
	}
	return e
}

// name is the name of an element with this byte.
func (d *document) name(b byte) string {
	if b == literal {
		return d.tabled()
	}
	name := vocab.Name(d.page, b)
	if name == "" {
		d.Fail(api.ErrName)
	}
	return name
}

// What an element may have.
const (
	nothing = iota
	texts
	bytes
	kids
)

// follows tells what an element has now, of which something comes: it may be the first, or another text or kid behind such ones.
func (d *document) follows(had, comes int) int {
	if had != nothing && (had != comes || comes == bytes) {
		d.Fail(api.ErrState)
	}
	return comes
}

// within takes what an element has that lies so deep, up to its end.
func (d *document) within(e *api.Elem, deep int) {
	// A short document may name a long text of its table very often.
	var said strings.Builder
	had := nothing
next:
	for b := d.Byte(); d.isWell(); b = d.Byte() {
		switch b {
		case end:
			break next
		case inline:
			had = d.follows(had, texts)
			said.WriteString(d.Text())
			continue next
		case tabled:
			had = d.follows(had, texts)
			said.WriteString(d.tabled())
			continue next
		case opaque:
			had = d.follows(had, bytes)
			said.WriteString(d.sized())
			continue next
		}
		d.begins(b)
		had = d.follows(had, kids)
		if len(e.Kids) == api.MaxKids {
			d.Fail(api.ErrFull)
		}
		if deep == api.MaxDepth {
			d.Fail(api.ErrDeep)
		}
		e.Kids = append(e.Kids, d.elem(b, deep+1))
	}
	e.Text = said.String()
	e.Opaque = had == bytes && e.Text != ""
}
