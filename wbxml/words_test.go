package wbxml_test

import (
	"regexp"
	"slices"
	"strings"

	"cardcase/api"
	"cardcase/mbint"
	"cardcase/sample"
	"cardcase/tree"
	"cardcase/vocab"
)

// The chapter's numbers, said once more.
const (
	mostDoc  = 12000
	mostText = 4000
	mostKids = 200
	mostDeep = 12
)

// Elements by no call of the program.
var (
	node   = sample.Node
	leaf   = sample.Leaf
	holder = sample.Holder
	nest   = sample.Nest
	same   = sample.SameElem
	copyOf = sample.CopyElem
)

// all are an element and all within it, each ahead of its kids.
func all(e api.Elem) []api.Elem {
	l := []api.Elem{e}
	for _, kid := range e.Kids {
		l = append(l, all(kid)...)
	}
	return l
}

// number is a number's bytes.
func number(n int) string {
	out := []byte{byte(n & 127)}
	for n >>= 7; n > 0; n >>= 7 {
		out = slices.Insert(out, 0, byte(n|128))
	}
	return string(out)
}

// doc is a document with this table and this element.
func doc(table, element string) string {
	return "\x03\x01\x6a" + number(len(table)) + table + element
}

// tableWords is an element's table, said once more.
func tableWords(e api.Elem) []string {
	var table []string
	put := func(text string) {
		if !slices.Contains(table, text) {
			table = append(table, text)
		}
	}
	l := all(e)
	for _, x := range l {
		if vocab.Token(x.Page, x.Name) == 0 {
			put(x.Name)
		}
		have := 0
		for _, y := range l {
			if !y.Opaque && y.Text == x.Text {
				have++
			}
		}
		if !x.Opaque && len(x.Text) > 3 && have > 1 {
			put(x.Text)
		}
	}
	return table
}

// writeWords is an element's document, however long, said once more.
func writeWords(e api.Elem) string {
	table := ""
	for _, text := range tableWords(e) {
		table += text + "\x00"
	}
	page := 0
	return doc(table, elemWords(e, table, &page))
}

// elemWords is an element of a document with this table, in which this page was named last.
func elemWords(e api.Elem, table string, page *int) string {
	// No text that is not Opaque has a nought: so each of the table stands between two.
	index := func(text string) int { return strings.Index("\x00"+table, "\x00"+text+"\x00") }
	out := ""
	if e.Page != *page {
		*page = e.Page
		out = "\x00" + string(rune(e.Page))
	}
	mark, behind := vocab.Token(e.Page, e.Name), ""
	if mark == 0 {
		mark, behind = 4, number(index(e.Name))
	}
	if e.Text == "" && len(e.Kids) == 0 {
		return out + string([]byte{mark}) + behind
	}
	out += string([]byte{mark + 64}) + behind
	switch {
	case e.Text == "":
	case e.Opaque:
		out += "\xc3" + number(len(e.Text)) + e.Text
	case index(e.Text) >= 0:
		out += "\x83" + number(index(e.Text))
	default:
		out += "\x03" + e.Text + "\x00"
	}
	for _, kid := range e.Kids {
		out += elemWords(kid, table, page)
	}
	return out + "\x01"
}

// A fault is something that is wrong, and where.
type fault struct {
	at int
	e  api.Errno
}

// A reading goes through a document; what is wrong leaves it by a panic.
type reading struct {
	s, table string
	at, page int
	open     []opened
}

// opened is an element whose end was not come to yet, and, by letters, what came within it: t a text, o something opaque, k a kid.
type opened struct {
	e   api.Elem
	had string
}

var mayHave = regexp.MustCompile(`\A(t*|o|k*)\z`)

func wrong(at int, e api.Errno) { panic([]fault{{at, e}}) }

// take tells what a reader finds at the reading's place.
func take[T any](r *reading, read func(m *mbint.Reader) T) T {
	m := mbint.New(r.s[r.at:])
	found := read(m)
	if at, e := m.Err(); e != api.OK {
		wrong(r.at+at, e)
	}
	r.at += m.At()
	return found
}

func (r *reading) byte() byte { return take(r, (*mbint.Reader).Byte) }

// begin is the next byte, with its place.
func (r *reading) begin() (int, byte) {
	at := r.at
	return at, r.byte()
}

func (r *reading) number() int { return int(take(r, (*mbint.Reader).Number)) }

func (r *reading) bytes() string {
	size := r.number()
	return take(r, func(m *mbint.Reader) string { return m.Bytes(size) })
}

func (r *reading) entry() string {
	index := r.number()
	switch {
	case index >= len(r.table):
		wrong(r.at, api.ErrRange)
	case !strings.Contains(r.table[index:], "\x00"):
		wrong(r.at, api.ErrShort)
	}
	return strings.SplitN(r.table[index:], "\x00", 2)[0]
}

// readWords is 15.2, said once more: an element, or what may be told of. Where one byte is wrong in more than one way, each of these may be.
func readWords(s string) (e api.Elem, faults []fault) {
	defer func() {
		if l, ok := recover().([]fault); ok {
			e, faults = api.Elem{}, l
		}
	}()
	if len(s) > mostDoc {
		wrong(0, api.ErrLong)
	}
	r := &reading{s: s}
	if r.byte() != 3 {
		wrong(0, api.ErrKind)
	}
	for _, want := range []int{1, 106} {
		at := r.at
		if r.number() != want {
			wrong(at, api.ErrKind)
		}
	}
	r.table = r.bytes()
	at, b := r.begin()
	e, isWhole := r.elem(at, b)
	for !isWhole {
		e, isWhole = r.next()
	}
	if r.at < len(s) {
		wrong(r.at, api.ErrMore)
	}
	if fault := tree.Check(e); fault != api.OK {
		wrong(0, fault)
	}
	return e, nil
}

// refusal is what an element's byte at a place is refused for, if anything.
func refusal(at int, b byte) []fault {
	if strings.ContainsRune("\x01\x02\x03\x40\x41\x42\x43", rune(b)) || b >= 128 {
		return []fault{{at, api.ErrKind}}
	}
	return nil
}

// elem goes on with an element's byte, or one ahead of it, that stands at a place; if the outermost element is whole then, it tells it.
func (r *reading) elem(at int, b byte) (api.Elem, bool) {
	for {
		if l := refusal(at, b); l != nil {
			panic(l)
		}
		if b != 0 {
			break
		}
		if r.page = int(r.byte()); r.page > 2 {
			wrong(r.at-1, api.ErrKind)
		}
		at, b = r.begin()
	}
	e := api.Elem{Page: r.page}
	if b == 4 || b == 68 {
		e.Name = r.entry()
	} else if e.Name = vocab.Name(r.page, b%64); e.Name == "" {
		wrong(r.at, api.ErrName)
	}
	r.open = append(r.open, opened{e: e})
	if b < 64 {
		return r.end()
	}
	return api.Elem{}, false
}

// end ends the innermost element; if it is the outermost one, too, it tells it.
func (r *reading) end() (api.Elem, bool) {
	last := r.open[len(r.open)-1].e
	r.open = r.open[:len(r.open)-1]
	if len(r.open) == 0 {
		return last, true
	}
	around := &r.open[len(r.open)-1].e
	around.Kids = append(around.Kids, last)
	return api.Elem{}, false
}

// next goes on with what comes next within the innermost element; if the outermost one is whole then, it tells it.
func (r *reading) next() (api.Elem, bool) {
	in := &r.open[len(r.open)-1]
	at, b := r.begin()
	switch b {
	case 1:
		return r.end()
	case 3, 0x83:
		in.had += "t"
	case 0xc3:
		in.had += "o"
	default:
		in.had += "k"
	}
	isKid := strings.HasSuffix(in.had, "k")
	switch {
	case !mayHave.MatchString(in.had):
		r.refuse(at, b, isKid, api.ErrState)
	case strings.Count(in.had, "k") > mostKids:
		r.refuse(at, b, isKid, api.ErrFull)
	case isKid && len(r.open) == mostDeep:
		r.refuse(at, b, isKid, api.ErrDeep)
	}
	switch b {
	case 3:
		in.e.Text += take(r, (*mbint.Reader).Text)
	case 0x83:
		in.e.Text += r.entry()
	case 0xc3:
		in.e.Text = r.bytes()
		in.e.Opaque = in.e.Text != ""
	default:
		return r.elem(at, b)
	}
	return api.Elem{}, false
}

// refuse tells that something may not come; if it is a kid whose byte could be none anywhere, that may be told instead.
func (r *reading) refuse(at int, b byte, isKid bool, e api.Errno) {
	may := []fault{{r.at, e}}
	if isKid {
		may = append(may, refusal(at, b)...)
	}
	if isKid && len(may) == 1 && b != 0 && b%64 != 4 && vocab.Name(r.page, b%64) == "" {
		may = append(may, fault{r.at, api.ErrName})
	}
	panic(may)
}

// mixed are some count elements of all kinds that are right.
func mixed(count int) []api.Elem {
	return slices.DeleteFunc(sample.Elems(count), func(e api.Elem) bool { return tree.Check(e) != api.OK })
}
