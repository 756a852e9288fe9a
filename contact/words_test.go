package contact_test

import (
	"maps"
	"reflect"
	"regexp"
	"slices"
	"strings"
	"testing"

	"cardcase/api"
	"cardcase/contact"
	"cardcase/prop"
	"cardcase/sample"
	"cardcase/vcard"
)

const (
	mostFields = 24
	mostText   = 600
	mostCard   = 4000
)

// line is the property of a line that is right.
func line(s string) api.Prop {
	p, _, e := prop.Parse(s)
	if e != api.OK {
		panic(s)
	}
	return p
}

// cardOf is a card of properties' lines.
func cardOf(l ...string) api.Card {
	var c api.Card
	for _, s := range l {
		c.Props = append(c.Props, line(s))
	}
	return c
}

// agent is a property of what stands ahead of a line's value, with a card of properties.
func agent(head string, l ...api.Prop) api.Prop {
	p := line(head + ":")
	p.Agent = []api.Card{{Props: l}}
	return p
}

// valued is a property of what stands ahead of a line's value, with any value.
func valued(head, value string) api.Prop {
	p := line(head + ":")
	p.Value = value
	return p
}

// text is the text of a contact that is right.
func text(c api.Contact) string {
	s, e := contact.Text(c)
	if e != api.OK {
		panic(e)
	}
	return s
}

// agentText is the text of a contact within which others lie, so many in all.
func agentText(count int) string {
	c := sample.Contact("FN", "", "a")
	for range count - 1 {
		c = sample.Contact("AGENT", "", text(c))
	}
	return text(c)
}

// textOfSize is the text of a contact that has so many bytes, from 345 on.
func textOfSize(size int) string {
	// The lines that each card has take 37 bytes, and each field's line 4 beside its text.
	return text(sample.Contact("A", "", strings.Repeat("v", 300), "B", "", strings.Repeat("v", size-345)))
}

// orderWords is 11.1's Compare said once more.
func orderWords(a, b api.Field) int {
	return slices.Compare([]string{a.Name, a.Label, a.Text}, []string{b.Name, b.Label, b.Text})
}

var (
	// labelShape is a group, if there is one, and what is behind it.
	labelShape = regexp.MustCompile(`(?s)\A(?:([A-Z][A-Z0-9-]{0,31}):)?(.*)\z`)
	// paramShape is a parameter: a name, if there is one, and a value.
	paramShape = regexp.MustCompile(`\A(?:([A-Z][A-Z0-9-]{0,31})=)?([!-9<>-~]{1,32})\z`)
	// noParam is a parameter that may not be, as it says how a value is written, or is a word in small letters.
	noParam = regexp.MustCompile(`\A(?:(?:ENCODING|CHARSET)=.*|QUOTED-PRINTABLE|BASE64|[78]BIT|[^=]*[a-z][^=]*)\z`)
)

// labelledWords is a property of a label's group and parameters, if it is one, as the chapter's words have it.
func labelledWords(label string) (api.Prop, bool) {
	said := labelShape.FindStringSubmatch(label)
	p := api.Prop{Group: said[1]}
	if said[2] == "" {
		return p, true
	}
	l := strings.Split(said[2], ";")
	for i, s := range l {
		q := paramShape.FindStringSubmatch(s)
		if q == nil || noParam.MatchString(s) || i > 3 || i > 0 && s <= l[i-1] {
			return api.Prop{}, false
		}
		p.Params = append(p.Params, api.Param{Name: q[1], Value: q[2]})
	}
	return p, true
}

// labelWords is the label of a property, as the chapter's words have it.
func labelWords(p api.Prop) string {
	said := map[string]int{}
	for _, q := range p.Params {
		said[strings.TrimPrefix(q.Name+"="+q.Value, "=")]++
	}
	return strings.TrimPrefix(p.Group+":", ":") + strings.Join(slices.Sorted(maps.Keys(said)), ";")
}

// isOwn tells whether a text is that of a contact that is right: that of a card whose properties and parameters are in order, each once, and whose Agents are such ones, too.
func isOwn(s string) bool {
	c, _, e := vcard.Parse(s)
	if e != api.OK {
		return false
	}
	printed, e := vcard.Print(c)
	if e != api.OK || printed != s {
		return false
	}
	var ahead []string
	for _, p := range c.Props {
		label := labelWords(p)
		again, ok := labelledWords(label)
		if !ok || !slices.Equal(again.Params, p.Params) {
			return false
		}
		value := p.Value
		if p.Name == "AGENT" {
			value, _ = vcard.Print(p.Agent[0])
			if len(value) > mostText || !isOwn(value) {
				return false
			}
		}
		next := []string{p.Name, label, value}
		if ahead != nil && slices.Compare(ahead, next) >= 0 {
			return false
		}
		ahead = next
	}
	return true
}

// cardWords is a contact as a card, but that its texts may be wrong.
func cardWords(c api.Contact) api.Card {
	var card api.Card
	for _, f := range c.Fields {
		p, _ := labelledWords(f.Label)
		p.Name, p.Value = f.Name, f.Text
		if f.Name == "AGENT" {
			within, _, _ := vcard.Parse(f.Text)
			p.Value, p.Agent = "", []api.Card{within}
		}
		card.Props = append(card.Props, p)
	}
	return card
}

// checkWords is 11.2's Check said once more.
func checkWords(c api.Contact) api.Errno {
	if len(c.Fields) > mostFields {
		return api.ErrFull
	}
	for i, f := range c.Fields {
		_, ok := labelledWords(f.Label)
		switch {
		case i > 0 && orderWords(c.Fields[i-1], f) >= 0:
			return api.ErrOrder
		case !ok:
			return api.ErrField
		case len(f.Text) > mostText:
			return api.ErrLong
		case f.Name == "AGENT" && !isOwn(f.Text):
			return api.ErrKind
		}
	}
	return vcard.Check(cardWords(c))
}

// ofWords is 11.3's Of said once more.
func ofWords(c api.Card) (api.Contact, api.Errno) {
	if e := vcard.Check(c); e != api.OK {
		return api.Contact{}, e
	}
	once := map[api.Field]int{}
	for _, p := range c.Props {
		f := api.Field{Name: p.Name, Label: labelWords(p), Text: p.Value}
		if p.Name == "AGENT" {
			said, e := ofWords(p.Agent[0])
			if e != api.OK {
				return api.Contact{}, e
			}
			f.Text, e = vcard.Print(cardWords(said))
			if e != api.OK {
				return api.Contact{}, e
			}
			if len(f.Text) > mostText {
				return api.Contact{}, api.ErrLong
			}
		}
		once[f]++
	}
	said := api.Contact{Fields: slices.SortedFunc(maps.Keys(once), orderWords)}
	if e := checkWords(said); e != api.OK {
		return api.Contact{}, e
	}
	return said, api.OK
}

// readWords is 11.3's Read said once more.
func readWords(s string) (api.Contact, int, api.Errno) {
	card, at, e := vcard.Parse(s)
	if e != api.OK {
		return api.Contact{}, at, e
	}
	c, e := ofWords(card)
	return c, 0, e
}

// wrong holds Check, Card and Text against an error that they must answer.
func wrong(t *testing.T, c api.Contact, want api.Errno) {
	t.Helper()
	before := sample.Copy(c)
	if e := contact.Check(c); e != want {
		t.Errorf("Check(%.300q): %v, not %v", c, e, want)
	}
	if card, e := contact.Card(c); e != want || !reflect.DeepEqual(card, api.Card{}) {
		t.Errorf("Card(%.300q): %.300q and %v, not %v", c, card, e, want)
	}
	if s, e := contact.Text(c); e != want || s != "" {
		t.Errorf("Text(%.300q): %.300q and %v, not %v", c, s, e, want)
	}
	if !slices.Equal(c.Fields, before.Fields) {
		t.Errorf("%.300q is another one now, not %.300q", c, before)
	}
}

// right holds Check, Card and Text of a contact that is right against the words, and what is read again of these (11.4).
func right(t *testing.T, c api.Contact) {
	t.Helper()
	before := sample.Copy(c)
	want := cardWords(c)
	wantText, _ := vcard.Print(want)
	if e := contact.Check(c); e != api.OK {
		t.Errorf("Check(%.300q): %v", c, e)
	}
	card, e := contact.Card(c)
	if e != api.OK || !vcard.Same(card, want) {
		t.Errorf("Card(%.300q): %.300q and %v, not %.300q", c, card, e, want)
	}
	s, e := contact.Text(c)
	if e != api.OK || s != wantText {
		t.Errorf("Text(%.300q): %q and %v, not %q", c, s, e, wantText)
	}
	of(t, card, c)
	read(t, s, c)
	if !slices.Equal(c.Fields, before.Fields) {
		t.Errorf("%.300q is another one now, not %.300q", c, before)
	}
}

// checked holds a contact against 11.2's words, and answers its error.
func checked(t *testing.T, c api.Contact) api.Errno {
	t.Helper()
	e := checkWords(c)
	if e == api.OK {
		right(t, c)
	} else {
		wrong(t, c, e)
	}
	return e
}

// formed holds Of against what it must answer.
func formed(t *testing.T, c api.Card, want api.Contact, wantE api.Errno) {
	t.Helper()
	said, e := contact.Of(c)
	if e != wantE || !slices.Equal(said.Fields, want.Fields) {
		t.Errorf("Of(%.300q): %.300q and %v, not %.300q and %v", c, said, e, want, wantE)
	}
}

// of holds Of of a card against a contact.
func of(t *testing.T, c api.Card, want api.Contact) {
	t.Helper()
	formed(t, c, want, api.OK)
}

// noneOf holds Of of a card against an error.
func noneOf(t *testing.T, c api.Card, e api.Errno) {
	t.Helper()
	formed(t, c, api.Contact{}, e)
}

// formedWords holds Of against 11.3's words, and answers its error.
func formedWords(t *testing.T, c api.Card) api.Errno {
	t.Helper()
	want, e := ofWords(c)
	formed(t, c, want, e)
	return e
}

// reads holds Read against what it must answer.
func reads(t *testing.T, s string, want api.Contact, wantAt int, wantE api.Errno) {
	t.Helper()
	c, at, e := contact.Read(s)
	if e != wantE || at != wantAt || !slices.Equal(c.Fields, want.Fields) {
		t.Errorf("Read(%.600q): %.300q, %d and %v, not %.300q, %d and %v", s, c, at, e, want, wantAt, wantE)
	}
}

// read holds Read of a text against a contact.
func read(t *testing.T, s string, want api.Contact) {
	t.Helper()
	reads(t, s, want, 0, api.OK)
}

// stops holds Read of a text against an error and its line.
func stops(t *testing.T, s string, at int, e api.Errno) {
	t.Helper()
	reads(t, s, api.Contact{}, at, e)
}

// readsWords holds Read against 11.3's words, and answers its error.
func readsWords(t *testing.T, s string) api.Errno {
	t.Helper()
	want, at, e := readWords(s)
	reads(t, s, want, at, e)
	return e
}
