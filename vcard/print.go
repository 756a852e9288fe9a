package vcard

import (
	"slices"

	"cardcase/api"
	"cardcase/charset"
	"cardcase/lines"
	"cardcase/prop"
	"cardcase/quoted"
	"cardcase/sixbit"
)

const (
	lineWidth  = 75
	pieceWidth = 60
)

// Print is a card as a text.
func Print(c api.Card) (string, api.Errno) {
	if Deep(c) > api.MaxAgents {
		return "", api.ErrDeep
	}
	if e := cardFault(c); e != api.OK {
		return "", e
	}
	text := lines.Join(cardLines(c))
	if len(text) > api.MaxCard {
		return "", api.ErrLong
	}
	return text, api.OK
}

// cardLines are the lines of a card in which nothing is wrong.
func cardLines(c api.Card) []string {
	l := []string{beginLine, versionLine}
	for _, p := range c.Props {
		value, how := written(p.Value)
		// Nothing is wrong with it: a value has room as it is written, and so have the parameters.
		line, _ := prop.Print(api.Prop{Group: p.Group, Name: p.Name, Params: slices.Concat(p.Params, how), Value: value})
		l = append(l, lines.Fold(line, lineWidth)...)
		for _, within := range p.Agent {
			l = append(l, cardLines(within)...)
		}
	}
	return append(l, endLine)
}

// written is a value as it is written, and the parameters that say how.
func written(value string) (string, []api.Param) {
	switch charset.Least(value) {
	case charset.Ascii:
		if isPlain(value) {
			return value, nil
		}
		fallthrough
	case charset.Latin, charset.Utf8:
		return quoted.Encode(value), []api.Param{
			{Name: charsetParam, Value: charset.Name(charset.Utf8)},
			{Name: encodingParam, Value: quotedPrintable},
		}
	}
	return inPieces(sixbit.Encode(value)), []api.Param{{Name: encodingParam, Value: base64}}
}

// isPlain tells whether a value has none but bytes that are written as they are.
func isPlain(value string) bool {
	for i := range len(value) {
		if value[i] < ' ' || value[i] > '~' {
			return false
		}
	}
	return true
}

// inPieces is letters in pieces, each with a blank ahead, so that a line of them can be folded.
func inPieces(letters string) string {
	var out []byte
	for piece := range sixbit.Lines(letters, pieceWidth) {
		out = append(out, ' ')
		out = append(out, piece...)
	}
	return string(out)
}
