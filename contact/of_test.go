package contact_test

import (
	"reflect"
	"runtime"
	"slices"
	"strings"
	"testing"

	"cardcase/api"
	"cardcase/contact"
	"cardcase/sample"
	"cardcase/vcard"
)

// 11.3: the fields of cards.
func TestOf(t *testing.T) {
	for _, one := range []struct {
		card api.Card
		c    api.Contact
	}{
		{api.Card{}, api.Contact{}},
		{api.Card{Props: []api.Prop{}}, api.Contact{}},
		{cardOf("TEL;WORK;HOME:1", "FN:a"), sample.Contact("FN", "", "a", "TEL", "HOME;WORK", "1")},
		{cardOf("FN:"), sample.Contact("FN", "", "")},
		// a group alone, parameters alone, both, neither
		{cardOf("G.TEL:1"), sample.Contact("TEL", "G:", "1")},
		{cardOf("TEL;A:1"), sample.Contact("TEL", "A", "1")},
		{cardOf("TEL;X=y:1"), sample.Contact("TEL", "X=y", "1")},
		{cardOf("G.TEL;A:1"), sample.Contact("TEL", "G:A", "1")},
		{cardOf("G.TEL;X=y;A:1"), sample.Contact("TEL", "G:A;X=y", "1")},
		{cardOf("A.TEL:1", "TEL;A:1", "TEL:1", "A.TEL;A:1"), sample.Contact("TEL", "", "1", "TEL", "A", "1", "TEL", "A:", "1", "TEL", "A:A", "1")},
		// parameters in any order, and twice the same
		{cardOf("N;B;A:", "N;A=b;A;A-B;A=B:", "N;10;9;1:"), sample.Contact("N", "1;10;9", "", "N", "A;A-B;A=B;A=b", "", "N", "A;B", "")},
		{cardOf("N;A;A:"), sample.Contact("N", "A", "")},
		{cardOf("N;A;A;A;A:"), sample.Contact("N", "A", "")},
		{cardOf("N;B;A;B;A:"), sample.Contact("N", "A;B", "")},
		{cardOf("N;X=a;X=b;X=a;X:"), sample.Contact("N", "X;X=a;X=b", "")},
		{cardOf("N;X=a;X=A;X=a:"), sample.Contact("N", "X=A;X=a", "")},
		{cardOf("G.N;~;!;0;a=~:"), sample.Contact("N", "G:!;0;A=~;~", "")},
		// properties that give the same field
		{cardOf("FN:a", "FN:a"), sample.Contact("FN", "", "a")},
		{cardOf("FN:a", "TEL:1", "FN:a", "TEL:1", "FN:b"), sample.Contact("FN", "", "a", "FN", "", "b", "TEL", "", "1")},
		{cardOf("TEL;A;B:1", "TEL;B;A:1", "TEL;B;A;B:1", "TEL;A:1"), sample.Contact("TEL", "A", "1", "TEL", "A;B", "1")},
		{api.Card{Props: slices.Repeat(cardOf("G.TEL;B;A:1").Props, mostFields)}, sample.Contact("TEL", "G:A;B", "1")},
		// in order
		{cardOf("C:1", "B:2", "A:3", "B:1", "B;A:0", "A.B:", "AA:"), sample.Contact("A", "", "3", "AA", "", "", "B", "", "1", "B", "", "2", "B", "A", "0", "B", "A:", "", "C", "", "1")},
		{api.Card{Props: []api.Prop{valued("N", "\xff"), valued("N", "a"), valued("N", "\x00"), valued("N", ""), valued("N", "\xc3\xa9")}}, sample.Contact("N", "", "", "N", "", "\x00", "N", "", "a", "N", "", "\xc3\xa9", "N", "", "\xff")},
		// Agents
		{api.Card{Props: []api.Prop{line("FN:a"), agent("G.AGENT;B;A", line("TEL;WORK;HOME:1"), line("FN:b"))}}, sample.Contact("AGENT", "G:A;B", "BEGIN:VCARD\r\nVERSION:2.1\r\nFN:b\r\nTEL;HOME;WORK:1\r\nEND:VCARD\r\n", "FN", "", "a")},
		{api.Card{Props: []api.Prop{agent("AGENT", agent("AGENT"), line("FN:b"), agent("AGENT"))}}, sample.Contact("AGENT", "", "BEGIN:VCARD\r\nVERSION:2.1\r\nAGENT:\r\nBEGIN:VCARD\r\nVERSION:2.1\r\nEND:VCARD\r\nFN:b\r\nEND:VCARD\r\n")},
		{api.Card{Props: []api.Prop{agent("AGENT", line("FN:b"), line("FN:a")), agent("AGENT", line("FN:a"), line("FN:b"), line("FN:a")), agent("AGENT", line("FN:b"))}}, sample.Contact("AGENT", "", text(sample.Contact("FN", "", "a", "FN", "", "b")), "AGENT", "", text(sample.Contact("FN", "", "b")))},
	} {
		of(t, one.card, one.c)
		right(t, one.c)
		if got, e := ofWords(one.card); e != api.OK || !slices.Equal(got.Fields, one.c.Fields) {
			t.Errorf("the words say %q and %v of %q", got, e, one.card)
		}
	}
}

// folding is a property whose line is not folded, as no blank is near enough to its beginning; but it is, once one parameter that is there twice is there once.
func folding(name string, value string) api.Prop {
	const room = 74 // bytes ahead of the value, once a parameter of two bytes is gone
	first := ";Y=" + strings.Repeat("y", 32)
	rest := room - len(name) - len(first) - len(";A") - len(";Z=:")
	return valued(name+";A"+first+";A;Z="+strings.Repeat("z", rest), value)
}

// words is a value of so many bytes, beginning with a blank, in which there are many.
func words(size int) string { return strings.Repeat(" word", size)[:size] }

// 11.3: parameters that are there once, and no more twice, make a text longer, if its line is folded then, or else shorter.
func TestOfFolded(t *testing.T) {
	p := folding("P", words(400))
	card := api.Card{Props: []api.Prop{p}}
	before := len(print(card))
	c, e := contact.Of(card)
	if after := len(text(c)); e != api.OK || after != before-2+2*6 {
		t.Fatalf("a text of %d bytes is one of %d then, %v", before, after, e)
	}
	// an Agent's text, by one byte more
	for size := 400; size <= mostText; size++ {
		inner := api.Card{Props: []api.Prop{folding("P", words(size))}}
		said, e := contact.Of(inner)
		if e != api.OK {
			t.Fatalf("Of(%q): %v", inner, e)
		}
		own := text(said)
		within := api.Card{Props: []api.Prop{agent("AGENT", inner.Props...)}}
		if len(own) <= mostText {
			of(t, within, sample.Contact("AGENT", "", own))
		} else {
			noneOf(t, within, api.ErrLong)
		}
		// and by less: three parameters more than need be
		inner.Props[0].Params = line("P;ABCD;ABCD;ABCD;ABCD:").Params
		own = text(sample.Contact("P", "ABCD", words(size)))
		within = api.Card{Props: []api.Prop{agent("AGENT", inner.Props...)}}
		if len(own) <= mostText {
			of(t, within, sample.Contact("AGENT", "", own))
		} else {
			noneOf(t, within, api.ErrLong)
		}
	}
	// the whole text
	count := map[api.Errno]int{}
	long := cardOf("A:"+longest, "B:"+longest, "C:"+longest, "D:"+longest, "E:"+longest)
	for size := range mostText + 1 {
		whole := api.Card{Props: append([]api.Prop{valued("X", words(size)), p}, long.Props...)}
		if vcard.Check(whole) != api.OK {
			break
		}
		count[formedWords(t, whole)]++
		slices.Reverse(whole.Props)
		count[formedWords(t, whole)]++
	}
	// ten bytes more
	if count[api.ErrLong] < 10 || count[api.ErrLong] > 20 || len(count) != 2 {
		t.Errorf("%v", count)
	}
}

// badCards are cards that may not be, and vcard.Check's errors.
func badCards() map[string]struct {
	c api.Card
	e api.Errno
} {
	type bad = struct {
		c api.Card
		e api.Errno
	}
	one := func(p api.Prop) api.Card { return api.Card{Props: []api.Prop{p}} }
	changed := func(how func(p *api.Prop)) api.Card {
		p := line("G.N;A;X=b:v")
		how(&p)
		return one(p)
	}
	l := map[string]bad{
		"too deep":                {one(agent("AGENT", agent("AGENT", agent("AGENT")))), api.ErrDeep},
		"too many":                {api.Card{Props: slices.Repeat(cardOf("A:").Props, mostFields+1)}, api.ErrFull},
		"a group":                 {changed(func(p *api.Prop) { p.Group = "g" }), api.ErrName},
		"a name":                  {changed(func(p *api.Prop) { p.Name = "n" }), api.ErrName},
		"no name":                 {changed(func(p *api.Prop) { p.Name = "" }), api.ErrName},
		"seven parameters":        {changed(func(p *api.Prop) { p.Params = make([]api.Param, 7) }), api.ErrFull},
		"five parameters":         {cardOf("N;A;B;C;D;E:"), api.ErrFull},
		"five, twice the same":    {cardOf("N;A;A;A;A;A:"), api.ErrFull},
		"a parameter":             {changed(func(p *api.Prop) { p.Params[1].Value = "" }), api.ErrField},
		"a parameter's name":      {changed(func(p *api.Prop) { p.Params[1].Name = "x" }), api.ErrField},
		"a parameter with a ;":    {changed(func(p *api.Prop) { p.Params[1].Value = "B;C" }), api.ErrField},
		"a small letter":          {changed(func(p *api.Prop) { p.Params[0].Value = "a" }), api.ErrField},
		"ENCODING":                {cardOf("N;ENCODING=8BIT:"), api.ErrField},
		"CHARSET":                 {cardOf("N;CHARSET=UTF-8:"), api.ErrField},
		"BASE64":                  {cardOf("N;BASE64:"), api.ErrField},
		"BEGIN":                   {cardOf("BEGIN:VCARD"), api.ErrName},
		"END":                     {cardOf("FN:a", "END:"), api.ErrName},
		"VERSION":                 {cardOf("VERSION:2.1"), api.ErrName},
		"a long value":            {cardOf("N:" + long), api.ErrLong},
		"AGENT without a card":    {cardOf("AGENT:"), api.ErrKind},
		"AGENT with a value":      {cardOf("AGENT:v"), api.ErrKind},
		"AGENT with a text":       {one(valued("AGENT", agentText(1))), api.ErrKind},
		"AGENT with two cards":    {one(api.Prop{Name: "AGENT", Agent: make([]api.Card, 2)}), api.ErrKind},
		"AGENT with both":         {one(api.Prop{Name: "AGENT", Value: "v", Agent: make([]api.Card, 1)}), api.ErrKind},
		"another name with cards": {one(api.Prop{Name: "N", Agent: make([]api.Card, 1)}), api.ErrKind},
		"a long text":             {cardOf("A:"+longest, "B:"+longest, "C:"+longest, "D:"+longest, "E:"+longest, "F:"+longest, "G:"+longest), api.ErrLong},
	}
	return l
}

// 11.3: each error of vcard.Check, wherever it is.
func TestOfBad(t *testing.T) {
	for what, one := range badCards() {
		if e := vcard.Check(one.c); e != one.e {
			t.Errorf("%s: vcard.Check: %v, not %v", what, e, one.e)
		}
		noneOf(t, one.c, one.e)
		if len(one.c.Props) < mostFields {
			noneOf(t, api.Card{Props: append(cardOf("FN:b", "FN:a", "FN:a", "TEL;B;A:1").Props, one.c.Props...)}, one.e)
			noneOf(t, api.Card{Props: append(slices.Clone(one.c.Props), cardOf("FN:b", "FN:a", "FN:a", "TEL;B;A:1").Props...)}, one.e)
		}
		noneOf(t, api.Card{Props: []api.Prop{line("FN:a"), agent("AGENT;B;A", one.c.Props...), line("FN:a")}}, one.e)
		// ahead of what is wrong with an Agent's text
		noneOf(t, api.Card{Props: []api.Prop{agent("AGENT", line("A:"+longest)), agent("AGENT", one.c.Props...)}}, one.e)
	}
}

// 11.3: an Agent's text, as long as it may be, and longer.
func TestOfAgents(t *testing.T) {
	for size := 345; size <= 900; size++ {
		within := cardOf("B:"+strings.Repeat("v", size-345), "A:"+strings.Repeat("v", 300))
		one := api.Card{Props: []api.Prop{line("FN:a"), agent("G.AGENT;X", within.Props...)}}
		two := api.Card{Props: []api.Prop{agent("AGENT", agent("AGENT", within.Props...))}}
		// of the text around it: a property's line and a card's own ones
		around := len("AGENT:\r\n") + 37
		if size <= mostText {
			of(t, one, sample.Contact("AGENT", "G:X", textOfSize(size), "FN", "", "a"))
		} else {
			noneOf(t, one, api.ErrLong)
		}
		if size+around <= mostText {
			of(t, two, sample.Contact("AGENT", "", text(sample.Contact("AGENT", "", textOfSize(size)))))
		} else {
			noneOf(t, two, api.ErrLong)
		}
		// wherever the Agent is
		fields := api.Card{Props: []api.Prop{agent("AGENT"), line("FN:a"), agent("AGENT;X", within.Props...), line("A:"), agent("AGENT;Y")}}
		formedWords(t, fields)
		slices.Reverse(fields.Props)
		formedWords(t, fields)
	}
	// an Agent's errors, at the first, a middle and the last property
	for _, bad := range []api.Prop{agent("AGENT", line("A:"+longest)), agent("AGENT", agent("AGENT", line("A:"+longest))), agent("AGENT", agent("AGENT", line("A:"+longest[:520]))), agent("AGENT", line("A:"+longest[:300]), line("B:"+longest[:300]))} {
		for _, count := range []int{1, 2, 3, mostFields} {
			for _, at := range []int{0, count / 2, count - 1} {
				c := api.Card{Props: slices.Repeat(cardOf("FN:a").Props, count)}
				c.Props[at] = bad
				noneOf(t, c, api.ErrLong)
			}
		}
	}
	// as deep as may be
	of(t, api.Card{Props: []api.Prop{agent("AGENT", agent("AGENT", line("FN:a")))}}, sample.Contact("AGENT", "", agentText(2)))
	noneOf(t, api.Card{Props: []api.Prop{agent("AGENT", agent("AGENT", agent("AGENT", line("FN:a"))))}}, api.ErrDeep)
}

// cardText is the text of a card with these lines between the first two and the last one.
func cardText(l ...string) string {
	return strings.Join(slices.Concat([]string{"BEGIN:VCARD", "VERSION:2.1"}, l, []string{"END:VCARD", ""}), "\r\n")
}

// 11.3: texts that are right, however they are written.
func TestRead(t *testing.T) {
	want := sample.Contact("FN", "", "a", "TEL", "HOME;WORK", "1")
	for _, s := range []string{
		cardText("FN:a", "TEL;HOME;WORK:1"), cardText("TEL;WORK;HOME:1", "FN:a"), cardText("fn:a", "tel;work;home:1"), cardText("FN:a", "FN:a", "TEL;HOME;WORK:1", "TEL;WORK;HOME:1"), cardText("FN;8BIT:a", "TEL;HOME;WORK;HOME;HOME:1"),
		cardText("", "FN;QUOTED-PRINTABLE:=61", "", "TEL;BASE64;WORK;HOME: MQ=="), cardText("FN;CHARSET=UTF-8:a", "TEL;ENCODING=b;HOME;CHARSET=US-ASCII;WORK:", " MQ=="), strings.ToLower(cardText("fn:a", "tel;home;work:1")), strings.ReplaceAll(cardText("FN:a", "TEL;HOME;WORK:1"), "\r\n", "\n"), "\n \n" + cardText("FN:a", "TEL;HOME;WORK:1") + "\n\t\n",
	} {
		read(t, s, want)
	}
	read(t, cardText(), api.Contact{})
	read(t, cardText("A:b", " c"), sample.Contact("A", "", "b c"))
	read(t, cardText("N;CHARSET=ISO-8859-1:\xe9", "N:\xe9"), sample.Contact("N", "", "\xc3\xa9", "N", "", "\xe9"))
	read(t, cardText("home.agent;b;A:", "begin:vcard", "version:2.1", "tel:2", "tel:1", "end:vcard", "FN:a"), sample.Contact("AGENT", "HOME:A;B", text(sample.Contact("TEL", "", "1", "TEL", "", "2")), "FN", "", "a"))
	read(t, cardText("N;a;B=c;d;E=f:"), sample.Contact("N", "A;B=c;D;E=f", ""))
}

// 11.3: each error of vcard.Parse, with its line; Of's, with 0.
func TestReadBad(t *testing.T) {
	begin := "BEGIN:VCARD\r\nVERSION:2.1\r\n"
	for _, one := range []struct {
		s  string
		at int
		e  api.Errno
	}{
		{"", 0, api.ErrShort}, {" \n\t\n", 0, api.ErrShort}, {begin, 0, api.ErrShort}, {begin + "A:b", 0, api.ErrShort}, {begin + "A;QUOTED-PRINTABLE:b=", 0, api.ErrShort}, {begin + "AGENT:\n", 0, api.ErrShort}, {begin + "AGENT:\n" + begin + "END:VCARD\n", 0, api.ErrShort},
		{cardText() + strings.Repeat("\n", mostCard), 0, api.ErrLong}, {strings.Repeat("\x00", mostCard+1), 0, api.ErrLong},
		{"x", 1, api.ErrField}, {"\x00", 1, api.ErrField}, {"\n\nFN:a", 3, api.ErrField}, {"BEGIN:VCARD\nVERSION:3.0\nEND:VCARD\n", 2, api.ErrField}, {cardText("AGENT:", "FN:a"), 4, api.ErrField}, {cardText("A;:b"), 3, api.ErrField}, {cardText("A:b", "A:\x00"), 4, api.ErrField}, {cardText("A;QUOTED-PRINTABLE:=4"), 3, api.ErrShort}, {cardText("A;QUOTED-PRINTABLE:=XY"), 3, api.ErrField},
		{cardText(slices.Repeat([]string{"A:"}, mostFields+1)...), mostFields + 3, api.ErrFull}, {cardText("A;a;b;c;d;e:"), 3, api.ErrFull}, {cardText("A;a;a;a;a;a:"), 3, api.ErrFull}, {cardText("A;a;b;c;d;e;f;g:"), 3, api.ErrFull},
		{cardText("A"), 3, api.ErrShort}, {cardText("A:b", "1:b"), 4, api.ErrName}, {cardText(".A:b"), 3, api.ErrName}, {cardText("END:VCARDS"), 3, api.ErrName}, {cardText("version:2.1"), 3, api.ErrName}, {cardText("A;CHARSET=X:"), 3, api.ErrName},
		{cardText("A;ENCODING=X:"), 3, api.ErrKind}, {cardText("AGENT:v"), 3, api.ErrKind}, {cardText("A;BASE64:YQ"), 3, api.ErrShort}, {cardText("A;BASE64:YQ==YQ=="), 3, api.ErrMore}, {cardText("A;CHARSET=UTF-8:\xff"), 3, api.ErrCharset},
		{cardText("A:" + long), 3, api.ErrLong}, {cardText("B:", "A:"+strings.Repeat("v", 2401)), 4, api.ErrLong}, {begin + "AGENT:\n" + begin + "AGENT:\n" + begin + "AGENT:\n", 9, api.ErrDeep},
		{cardText("A:b") + "x", 5, api.ErrMore}, {cardText("A:b") + "\n" + cardText(), 6, api.ErrMore}, {cardText("FN:a", "FN:a", "\x00"), 5, api.ErrShort},
		// Of's: an Agent's text; the text of the whole, of values that are written by more than their bytes
		{cardText("FN:a", "AGENT:", "BEGIN:VCARD", "VERSION:2.1", "A:"+longest, "END:VCARD", "FN:b"), 0, api.ErrLong},
		{cardText("AGENT:", "BEGIN:VCARD", "VERSION:2.1", "A:"+strings.Repeat("\xff", 480), "END:VCARD"), 0, api.ErrLong},
		{cardText("AGENT:", "BEGIN:VCARD", "VERSION:2.1", "AGENT:", "BEGIN:VCARD", "VERSION:2.1", "A:"+longest[:520], "END:VCARD", "END:VCARD"), 0, api.ErrLong},
		{cardText(slices.Repeat([]string{"A:" + strings.Repeat("\xff", 590)}, 6)...), 0, api.ErrLong},
		{cardText(slices.Repeat([]string{"A:" + strings.Repeat("\x01", 590)}, 6)...), 0, api.ErrLong},
	} {
		stops(t, one.s, one.at, one.e)
		if _, at, e := readWords(one.s); at != one.at || e != one.e {
			t.Errorf("the words say %d and %v of %.300q, not %d and %v", at, e, one.s, one.at, one.e)
		}
	}
	// what vcard.Parse tells is ahead of what Of would tell
	stops(t, cardText("AGENT:", "BEGIN:VCARD", "VERSION:2.1", "A:"+longest, "END:VCARD", "A:"+long), 8, api.ErrLong)
	stops(t, cardText("AGENT:", "BEGIN:VCARD", "VERSION:2.1", "A:"+longest, "END:VCARD", "END:"), 8, api.ErrName)
}

// orders are lists of the same members in other orders: all of them, if there are few.
func orders[T any](l []T) [][]T {
	if len(l) < 2 {
		return [][]T{slices.Clone(l)}
	}
	if len(l) > 5 {
		back := slices.Clone(l)
		slices.Reverse(back)
		all := [][]T{back}
		for i := range l {
			all = append(all, slices.Concat(l[i:], l[:i]), slices.Concat(back[i:], back[:i]))
		}
		return all
	}
	var all [][]T
	for i, first := range l {
		for _, rest := range orders(slices.Concat(l[:i], l[i+1:])) {
			all = append(all, append([]T{first}, rest...))
		}
	}
	return all
}

// 11.4: the order of a card's properties, and of their parameters, makes no difference, within Agents, too.
func TestOfOrders(t *testing.T) {
	c := sample.Contact("AGENT", "A;B", text(sample.Contact("AGENT", "", agentText(1), "FN", "", "b", "TEL", "G:HOME;WORK;X=y", "2")), "FN", "", "a", "FN", "", "b", "TEL", "HOME;WORK;X=y;Y", "1", "TEL", "HOME;WORK;X=y;Z", "\xff")
	right(t, c)
	card := cardWords(c)
	for _, props := range orders(card.Props) {
		of(t, api.Card{Props: props}, c)
		of(t, api.Card{Props: append(props, props[2], props[4])}, c)
	}
	for i, p := range card.Props {
		for _, params := range orders(p.Params) {
			p.Params = params
			other := slices.Clone(card.Props)
			other[i] = p
			of(t, api.Card{Props: other}, c)
			of(t, api.Card{Props: append(slices.Clone(card.Props), p)}, c)
		}
	}
	for _, props := range orders(card.Props[0].Agent[0].Props) {
		for i, p := range props {
			for _, params := range orders(p.Params) {
				other := slices.Clone(props)
				other[i].Params = params
				p := card.Props[0]
				p.Agent = []api.Card{{Props: other}}
				of(t, api.Card{Props: append(slices.Clone(card.Props[1:]), p)}, c)
			}
		}
	}
}

// propPool are properties, more of them right than wrong.
func propPool() []api.Prop {
	l := cardOf("FN:a", "FN:b", "TEL:1", "TEL;HOME:1", "TEL;HOME;WORK:1", "TEL;WORK;HOME:1", "TEL;WORK;HOME;WORK:1", "G.TEL:1", "G.TEL;X=y:1", "H.TEL;X=y;A;X=x;B:1", "H.TEL;A;B;X=x;X=y:1", "N:Ex;Ann", "A:", "Z;TYPE=jpeg:", "NOTE:"+words(200), "NOTE:"+longest).Props
	l = append(l, folding("P", words(300)), valued("NOTE", "\xff"), valued("NOTE;B;A", "\r\n"))
	l = append(l, agent("AGENT"), agent("AGENT;B;A", l[1], l[0]), agent("AGENT;A;B", l[0], l[1], l[0]), agent("G.AGENT", agent("AGENT", l[5], l[3]), l[6]), agent("AGENT", l[16]), agent("AGENT", l[14], l[13], l[14]))
	for _, what := range []string{"a name", "five parameters", "a parameter", "END", "AGENT without a card", "a long value", "too deep"} {
		l = append(l, badCards()[what].c.Props...)
	}
	return append(l, agent("AGENT", line("A:"+longest)), agent("AGENT", folding("P", words(500))))
}

// 11.3 and 11.4: many cards.
func TestOfMany(t *testing.T) {
	props := propPool()
	var letters []string
	for i := range props {
		letters = append(letters, string([]byte{byte(i)}))
	}
	const right = 25
	count := map[api.Errno]int{}
	for i, s := range append(sample.Mixed(4000, 10, letters[:right]), append(sample.Mixed(2000, 5, letters), sample.Mixed(200, 40, letters[:right])...)...) {
		var c api.Card
		for _, at := range []byte(s) {
			c.Props = append(c.Props, props[at])
		}
		e := formedWords(t, c)
		count[e]++
		if e != api.OK {
			continue
		}
		said, _ := contact.Of(c)
		slices.Reverse(c.Props)
		of(t, c, said)
		if i%4 > 0 {
			continue
		}
		checked(t, said)
		if printed, e := vcard.Print(c); e == api.OK {
			read(t, printed, said)
			read(t, strings.ReplaceAll(printed, "\r\n", "\n"), said)
		}
	}
	for _, e := range []api.Errno{api.ErrFull, api.ErrName, api.ErrField, api.ErrLong, api.ErrKind, api.ErrDeep} {
		if count[e] < 10 {
			t.Errorf("%d cards with %v", count[e], e)
		}
	}
	if count[api.OK] < 2000 {
		t.Errorf("%d cards are right", count[api.OK])
	}
}

// 11.2 and 11.3: each text of a contact cut off at every place, and with a byte put in, or one turned, at every place: as it is read, and as an Agent's.
func TestReadEachByte(t *testing.T) {
	held := func(s string) {
		t.Helper()
		readsWords(t, s)
		if len(s) <= mostText {
			want := api.ErrKind
			if isOwn(s) {
				want = api.OK
			}
			if e := contact.Check(sample.Contact("AGENT", "", s)); e != want {
				t.Errorf("Check of an AGENT's text %q: %v, not %v", s, e, want)
			}
		}
	}
	for _, c := range []api.Contact{
		{},
		sample.Contact("FN", "", "a", "TEL", "G:HOME;WORK", "1"),
		sample.Contact("N", "A=b;C", "\xc3\xa9", "N", "D", "\xff"),
		sample.Contact("AGENT", "A;B", text(sample.Contact("FN", "", "b", "FN", "", "c")), "FN", "", "a"),
	} {
		s := text(c)
		held(s)
		for at := range len(s) {
			held(s[:at])
			held(s[at:])
			for bit := range 8 {
				held(s[:at] + string([]byte{s[at] ^ 1<<bit}) + s[at+1:])
			}
			for _, b := range strings.Split("\x00\n\r =:;aAZ\x80\xff", "") {
				held(s[:at] + b + s[at:])
				held(s[:at] + b + s[at+1:])
			}
			held(s[:at] + s[at+1:])
		}
	}
}

// 11.3: many texts.
func TestReadMany(t *testing.T) {
	begin := "BEGIN:VCARD\nVERSION:2.1\n"
	pieces := []string{"FN:a\n", "FN:b\n", "tel;b;a:1\n", "TEL;A;B:1\n", "g.TEL;x=y;x=y:1\n", "\n", "A;QUOTED-PRINTABLE:=3D\n", "A;BASE64: 6Q==\n", "AGENT:\n" + begin + "END:VCARD\n", "AGENT;b;a:\n" + begin + "N:2\nN:1\nEND:VCARD\n", "B:" + strings.Repeat("\xfe", 150) + "\n", "C:\xe9\n", "D;ENCODING=X:\n", "E:" + long + "\n", "END:\n", "\x00"}
	count := map[api.Errno]int{}
	for i, s := range sample.Mixed(6000, 9, pieces) {
		if i%2 > 0 {
			s = strings.NewReplacer("\x00", "", pieces[12], "", pieces[13], "", pieces[14], "").Replace(s)
		}
		count[readsWords(t, begin+s+"END:VCARD\n")]++
	}
	for _, s := range sample.Mixed(1000, 60, sample.Bytes()) {
		count[readsWords(t, s)]++
		count[readsWords(t, begin+s)]++
	}
	for _, e := range []api.Errno{api.OK, api.ErrShort, api.ErrField, api.ErrKind, api.ErrLong, api.ErrName} {
		if count[e] < 30 {
			t.Errorf("%d texts with %v", count[e], e)
		}
	}
}

// cloned is a card that shares no list with another.
func cloned(c api.Card) api.Card {
	c.Props = slices.Clone(c.Props)
	for i, p := range c.Props {
		c.Props[i].Params = slices.Clone(p.Params)
		c.Props[i].Agent = slices.Clone(p.Agent)
		for j, within := range p.Agent {
			c.Props[i].Agent[j] = cloned(within)
		}
	}
	return c
}

// What is handed in stays as it is, behind the lists' ends, too; what is handed out is nobody else's.
func TestOfListsOfTheirOwn(t *testing.T) {
	params := append(make([]api.Param, 0, 8), line("N;B;A;B:").Params...)
	props := append(make([]api.Prop, 0, 8), line("N:2"), line("N:1"), line("M:1"))
	for i := range props {
		props[i].Params = params
	}
	c := api.Card{Props: append(make([]api.Prop, 0, 8), append([]api.Prop{{Name: "AGENT", Params: params, Agent: append(make([]api.Card, 0, 4), api.Card{Props: props})}}, props...)...)}
	before := cloned(c)
	want := sample.Contact("AGENT", "A;B", text(sample.Contact("M", "A;B", "1", "N", "A;B", "1", "N", "A;B", "2")), "M", "A;B", "1", "N", "A;B", "1", "N", "A;B", "2")
	of(t, c, want)
	said, _ := contact.Of(c)
	_ = append(said.Fields, api.Field{Name: "BEHIND"}, api.Field{Name: "BEHIND"})
	clear(said.Fields)
	if !reflect.DeepEqual(c, before) {
		t.Errorf("%q is spoilt, not %q", c, before)
	}
	for _, behind := range [][]api.Prop{props[3:8], c.Props[4:8]} {
		if slices.ContainsFunc(behind, func(p api.Prop) bool { return p.Name != "" }) {
			t.Errorf("behind the properties: %q", behind)
		}
	}
	if behind := params[3:8]; slices.ContainsFunc(behind, func(q api.Param) bool { return q != api.Param{} }) {
		t.Errorf("behind the parameters: %q", behind)
	}
	of(t, c, want)
	s := text(want)
	one, _, _ := contact.Read(s)
	clear(one.Fields)
	read(t, s, want)
}

// P1: cards that lie within themselves: every call ends.
func TestOfRings(t *testing.T) {
	for _, c := range sample.Rings() {
		noneOf(t, c, api.ErrDeep)
		noneOf(t, api.Card{Props: []api.Prop{line("FN:a"), agent("AGENT", c.Props...)}}, api.ErrDeep)
		noneOf(t, api.Card{Props: append(slices.Repeat(cardOf("A:").Props, mostFields), agent("N", c.Props...))}, api.ErrDeep)
	}
}

// P1: calls end, and none panics, at lists and texts that are far too long.
func TestCallsEnd(t *testing.T) {
	const many = 1 << 16
	for _, b := range strings.Split("\x00\n\r -.09:;=AZaz~\x7f\x80\xc3\xff", "") {
		s := strings.Repeat(b, many)
		for _, c := range []api.Contact{sample.Contact(s, "", ""), sample.Contact("N", s, ""), sample.Contact("N", "G:"+s, ""), sample.Contact("N", "A;"+s, ""), sample.Contact("N", "A="+s, ""), sample.Contact("N", "", s), sample.Contact("AGENT", "", s), sample.Contact("AGENT", "", s[:mostText]), sample.Contact("AGENT", "", cardText(s[:500])), sample.Contact(s, s, s), sample.Contact(s, s, s, s, s, s)} {
			checked(t, c)
			same(t, c, c, true)
			asked(t, c, s+"x", "", false)
		}
		stops(t, s, 0, api.ErrLong)
		readsWords(t, s[:mostCard])
		readsWords(t, cardText(s[:3900]))
		for _, p := range []api.Prop{{Group: s, Name: "A"}, {Name: s}, {Name: "A", Value: s}, {Name: "AGENT", Value: s}, {Name: "A", Params: []api.Param{{Name: s, Value: "a"}}}, {Name: "A", Params: []api.Param{{Value: s}}}} {
			formedWords(t, api.Card{Props: []api.Prop{p}})
			formedWords(t, api.Card{Props: []api.Prop{agent("AGENT", p)}})
		}
	}
	for _, piece := range []string{"A;", "A=B;", "G:", ";:", "A=", "AGENT:\n"} {
		s := strings.Repeat(piece, many)
		wrong(t, sample.Contact("N", s, ""), api.ErrField)
		wrong(t, sample.Contact("N", s[:len(s)-1], ""), api.ErrField)
		stops(t, s, 0, api.ErrLong)
	}
	noneOf(t, api.Card{Props: make([]api.Prop, many)}, api.ErrFull)
	noneOf(t, api.Card{Props: []api.Prop{{Name: "A", Params: make([]api.Param, many)}}}, api.ErrFull)
	noneOf(t, api.Card{Props: []api.Prop{{Name: "AGENT", Agent: make([]api.Card, many)}}}, api.ErrKind)
	wrong(t, api.Contact{Fields: make([]api.Field, many)}, api.ErrFull)
	same(t, api.Contact{Fields: make([]api.Field, many)}, api.Contact{Fields: make([]api.Field, many+1)}, false)
}

// P1: a label of very many parameters, far more than there may be, takes no memory to speak of.
func TestCheckLongLabel(t *testing.T) {
	const size = 1 << 24
	for _, piece := range []string{";", "A;", "A=B;", ":", "="} {
		c := sample.Contact("N", strings.Repeat(piece, size/len(piece)), "")
		var before, after runtime.MemStats
		runtime.ReadMemStats(&before)
		e := contact.Check(c)
		runtime.ReadMemStats(&after)
		if got := after.TotalAlloc - before.TotalAlloc; e != api.ErrField || got > size/16 {
			t.Errorf("Check of a label of %q: %v, by %d bytes", piece, e, got)
		}
	}
}
