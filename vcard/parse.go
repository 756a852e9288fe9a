package vcard

import (
	"slices"
	"strings"

	"cardcase/api"
	"cardcase/capitals"
	"cardcase/charset"
	"cardcase/lines"
	"cardcase/prop"
	"cardcase/quoted"
	"cardcase/sixbit"
)

const (
	// softEnd is what a line ends with, if its value goes on in the next one.
	softEnd = "="
	// blanks are the bytes of a line that is passed over.
	blanks = " \t"
)

// What a reader wants the next line to be.
const (
	wantsBegin = iota
	wantsVersion
	wantsProp
	wantsNothing
)

// reader reads a card line by line.
type reader struct {
	wants  int
	number int        // of the line that is read
	open   []api.Card // those that have not ended yet, the outermost first
	card   api.Card   // the outermost, once it has ended

	// The property that is read, how its value is written, and whether that goes on in the next line.
	prop     api.Prop
	encoding string
	goesOn   bool
}

// Parse is the card of a text; else the line of what is wrong.
func Parse(s string) (api.Card, int, api.Errno) {
	if len(s) > api.MaxCard {
		return api.Card{}, 0, api.ErrLong
	}
	var r reader
	for number, line := range lines.Each(s) {
		if e := r.take(number, line); e != api.OK {
			return api.Card{}, r.number, e
		}
	}
	if r.wants != wantsNothing {
		return api.Card{}, 0, api.ErrShort
	}
	return r.card, 0, api.OK
}

// take reads a line, and tells what is wrong with it.
func (r *reader) take(number int, line string) api.Errno {
	if r.goesOn {
		r.prop.Value += line
		return r.takeValue()
	}
	if strings.Trim(line, blanks) == "" {
		return api.OK
	}
	r.number = number
	said := capitals.Of(line)
	switch {
	case r.wants == wantsBegin && said == beginLine:
		r.open = append(r.open, api.Card{})
		r.wants = wantsVersion
	case r.wants == wantsVersion && said == versionLine:
		r.wants = wantsProp
	case r.wants == wantsBegin, r.wants == wantsVersion:
		return api.ErrField
	case r.wants == wantsNothing:
		return api.ErrMore
	case said == endLine:
		r.end()
	default:
		return r.takeProp(line)
	}
	return api.OK
}

// innermost is the card to which the next line belongs.
func (r *reader) innermost() *api.Card { return &r.open[len(r.open)-1] }

// end ends the innermost card: it is the Agent of the last property of the card around it, if there is one.
func (r *reader) end() {
	ended := *r.innermost()
	r.open = r.open[:len(r.open)-1]
	if len(r.open) == 0 {
		r.card, r.wants = ended, wantsNothing
		return
	}
	around := r.innermost().Props
	around[len(around)-1].Agent = []api.Card{ended}
}

// takeProp reads a property's line, and tells what is wrong with it.
func (r *reader) takeProp(line string) api.Errno {
	if len(r.innermost().Props) == api.MaxProps {
		return api.ErrFull
	}
	p, _, e := prop.Parse(line)
	if e != api.OK {
		return e
	}
	r.prop, r.encoding = p, encodingOf(p)
	return r.takeValue()
}

// encodingOf is how a property's value is written.
func encodingOf(p api.Prop) string {
	at := slices.IndexFunc(p.Params, saysEncoding)
	if at < 0 {
		return eightBit
	}
	return capitals.Of(p.Params[at].Value)
}

// decoded is the bytes of a value that is written in a way.
func decoded(encoding, value string) (string, api.Errno) {
	switch encoding {
	case quotedPrintable:
		return quoted.Decode(value)
	case base64, shortBase64:
		return sixbit.Decode(value)
	case eightBit, sevenBit:
		return value, api.OK
	}
	return "", api.ErrKind
}

// takeValue reads the property's value, if it does not go on in the next line, and tells what is wrong with the property.
func (r *reader) takeValue() api.Errno {
	if r.encoding == quotedPrintable {
		r.prop.Value, r.goesOn = strings.CutSuffix(r.prop.Value, softEnd)
		if r.goesOn {
			return api.OK
		}
	}
	p, e := asMeant(r.prop, r.encoding)
	if e != api.OK {
		return e
	}
	c := r.innermost()
	c.Props = append(c.Props, p)
	if p.Name != agentName {
		return api.OK
	}
	if p.Value != "" {
		return api.ErrKind
	}
	if len(r.open) == api.MaxAgents {
		return api.ErrDeep
	}
	r.wants = wantsBegin
	return api.OK
}

// asMeant is a property with the value that is meant by what is written, and without what says how.
func asMeant(p api.Prop, encoding string) (api.Prop, api.Errno) {
	value, e := decoded(encoding, p.Value)
	if e != api.OK {
		return api.Prop{}, e
	}
	if name, ok := prop.Param(p, charsetParam); ok {
		value, e = lettersOf(name, value)
		if e != api.OK {
			return api.Prop{}, e
		}
	}
	p.Value = value
	p.Params = slices.DeleteFunc(p.Params, saysHow)
	switch {
	case len(p.Value) > api.MaxText:
		return api.Prop{}, api.ErrLong
	case len(p.Params) > mostParams:
		return api.Prop{}, api.ErrFull
	case isLineName(p.Name):
		return api.Prop{}, api.ErrName
	}
	return p, api.OK
}

// lettersOf is the text that bytes say in the charset of a name.
func lettersOf(name, b string) (string, api.Errno) {
	kind := charset.Named(name)
	if kind == charset.None {
		return "", api.ErrName
	}
	return charset.Decode(kind, b)
}
