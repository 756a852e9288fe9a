package vcard_test

import (
	"slices"
	"strings"
	"testing"

	"cardcase/api"
	"cardcase/prop"
	"cardcase/sample"
	"cardcase/vcard"
)

const (
	small = "abcdefghijklmnopqrstuvwxyz"

	mostProps  = 24
	mostParams = 4
	mostValue  = 600
	mostText   = 4000
)

// capitalized puts a capital for each small letter.
var capitalized = strings.NewReplacer(strings.Split("aAbBcCdDeEfFgGhHiIjJkKlLmMnNoOpPqQrRsStTuUvVwWxXyYzZ", "")...)

// upper is a text with capitals for small letters.
func upper(s string) string { return capitalized.Replace(s) }

// params are parameters of names and values, one behind the other.
func params(namesAndValues ...string) []api.Param {
	var l []api.Param
	for i := 0; i+1 < len(namesAndValues); i += 2 {
		l = append(l, api.Param{Name: namesAndValues[i], Value: namesAndValues[i+1]})
	}
	return l
}

// times is a list of so many parameters.
func times(count int, name, value string) []api.Param {
	return slices.Repeat(params(name, value), count)
}

// card is a card of properties.
func card(l ...api.Prop) api.Card { return api.Card{Props: l} }

// plain is a property of a name and a value.
func plain(name, value string) api.Prop { return api.Prop{Name: name, Value: value} }

// agent is a property with a card within.
func agent(l ...api.Prop) api.Prop {
	return api.Prop{Name: "AGENT", Agent: []api.Card{card(l...)}}
}

// filled is a card of so many properties.
func filled(count int) api.Card {
	return card(slices.Repeat([]api.Prop{plain("A", "")}, count)...)
}

// nested is a card within which others lie, so many in all; the innermost has these properties.
func nested(count int, l ...api.Prop) api.Card {
	c := card(l...)
	for range count - 1 {
		c = card(agent(c.Props...))
	}
	return c
}

// sized is a card whose text has so many bytes, from 1000 on, of properties without blanks.
func sized(size int) api.Card {
	var c api.Card
	// The lines that each card has take 37 bytes, and each property's line 4 beside the value.
	for left := size - 37; left > 0; {
		piece := min(left, mostValue+4)
		if left-piece > 0 && left-piece < 4 {
			piece -= 4
		}
		c.Props = append(c.Props, plain("A", strings.Repeat("v", piece-4)))
		left -= piece
	}
	return c
}

// alike tells whether two cards are the same, those within them, too.
func alike(a, b api.Card) bool { return slices.EqualFunc(a.Props, b.Props, alikeProps) }

// alikeProps tells whether two properties are the same.
func alikeProps(p, q api.Prop) bool {
	return p.Group == q.Group && p.Name == q.Name && p.Value == q.Value && slices.Equal(p.Params, q.Params) && slices.EqualFunc(p.Agent, q.Agent, alike)
}

// copyOf is a card that shares no list with another.
func copyOf(c api.Card) api.Card {
	c.Props = slices.Clone(c.Props)
	for i, p := range c.Props {
		c.Props[i].Params = slices.Clone(p.Params)
		c.Props[i].Agent = nil
		for _, within := range p.Agent {
			c.Props[i].Agent = append(c.Props[i].Agent, copyOf(within))
		}
	}
	return c
}

// first is the first of errors that is one.
func first(l ...api.Errno) api.Errno {
	for _, e := range l {
		if e != api.OK {
			return e
		}
	}
	return api.OK
}

// when is an error, if something holds.
func when(holds bool, e api.Errno) api.Errno {
	if holds {
		return e
	}
	return api.OK
}

// deepWords is 10.1's Deep said once more, but that it counts up to most.
func deepWords(c api.Card, most int) int {
	deep := min(most, 1)
	for _, p := range c.Props {
		for _, within := range p.Agent {
			if deep < most {
				deep = max(deep, 1+deepWords(within, most-1))
			}
		}
	}
	return deep
}

// checkWords is 10.1's Check said once more.
func checkWords(c api.Card) api.Errno {
	if deepWords(c, 4) == 4 {
		return api.ErrDeep
	}
	if e := insideWords(c); e != api.OK {
		return e
	}
	return when(len(printWords(c)) > mostText, api.ErrLong)
}

// insideWords is what 10.1 says of a card ahead of its text, but for how deep it is, said once more.
func insideWords(c api.Card) api.Errno {
	e := when(len(c.Props) > mostProps, api.ErrFull)
	for _, p := range c.Props {
		e = first(e, propWords(p))
	}
	return e
}

// propWords is what 10.1 says of a property, said once more.
func propWords(p api.Prop) api.Errno {
	bare := p
	bare.Value, bare.Agent = "", nil
	mayNot := false
	for _, q := range p.Params {
		how := strings.Contains(" QUOTED-PRINTABLE BASE64 8BIT 7BIT ", " "+q.Value+" ")
		mayNot = mayNot || q.Name == "ENCODING" || q.Name == "CHARSET" || q.Name == "" && (how || strings.ContainsAny(q.Value, small))
	}
	cards := len(p.Agent)
	e := first(
		prop.Check(bare),
		when(len(p.Params) > mostParams, api.ErrFull),
		when(mayNot, api.ErrField),
		when(p.Name == "BEGIN" || p.Name == "END" || p.Name == "VERSION", api.ErrName),
		when(len(p.Value) > mostValue, api.ErrLong),
		when(p.Name == "AGENT" && (cards != 1 || p.Value != ""), api.ErrKind),
		when(p.Name != "AGENT" && cards > 0, api.ErrKind),
	)
	if e == api.OK && cards == 1 {
		return insideWords(p.Agent[0])
	}
	return e
}

// wrong holds Check and Print against an error that they must answer.
func wrong(t *testing.T, c api.Card, want api.Errno) {
	t.Helper()
	if e := vcard.Check(c); e != want {
		t.Errorf("Check(%.300q): %v, not %v", c, e, want)
	}
	if s, e := vcard.Print(c); e != want || s != "" {
		t.Errorf("Print(%.300q): %.300q and %v, not %v", c, s, e, want)
	}
}

// right holds Check against no error, and Print and what is read of it against 10.1's and 10.3's words.
func right(t *testing.T, c api.Card) {
	t.Helper()
	printed(t, c, printWords(c))
}

// checked holds a card against 10.1's words, and answers its error.
func checked(t *testing.T, c api.Card) api.Errno {
	t.Helper()
	e := checkWords(c)
	if e == api.OK {
		right(t, c)
	} else {
		wrong(t, c, e)
	}
	return e
}

// A fault is something that is wrong with a property, and what Check says of it.
type fault struct {
	p api.Prop
	e api.Errno
}

// faults are properties with which one thing is wrong.
func faults() []fault {
	long := strings.Repeat("v", mostValue+1)
	return []fault{
		{api.Prop{Group: "g", Name: "A"}, api.ErrName},
		{api.Prop{Group: "END:", Name: "A"}, api.ErrName},
		{plain("", "v"), api.ErrName},
		{plain("a", "v"), api.ErrName},
		{plain("A B", "v"), api.ErrName},
		{api.Prop{Name: "A", Params: times(7, "", "B")}, api.ErrFull},
		{api.Prop{Name: "A", Params: params("b", "c")}, api.ErrField},
		{api.Prop{Name: "A", Params: params("", "b c")}, api.ErrField},
		{api.Prop{Name: "A", Params: params("B", "")}, api.ErrField},
		{api.Prop{Name: "A", Params: times(5, "", "B")}, api.ErrFull},
		{api.Prop{Name: "A", Params: times(6, "B", "c")}, api.ErrFull},
		{api.Prop{Name: "A", Params: params("ENCODING", "8BIT")}, api.ErrField},
		{api.Prop{Name: "A", Params: params("CHARSET", "UTF-8")}, api.ErrField},
		{api.Prop{Name: "A", Params: params("", "QUOTED-PRINTABLE")}, api.ErrField},
		{api.Prop{Name: "A", Params: params("", "BASE64")}, api.ErrField},
		{api.Prop{Name: "A", Params: params("", "8BIT")}, api.ErrField},
		{api.Prop{Name: "A", Params: params("", "7BIT")}, api.ErrField},
		{api.Prop{Name: "A", Params: params("", "Work")}, api.ErrField},
		{plain("BEGIN", "v"), api.ErrName},
		{plain("END", ""), api.ErrName},
		{plain("VERSION", "2.1"), api.ErrName},
		{plain("A", long), api.ErrLong},
		{plain("A", strings.Repeat("\x00", mostValue+1)), api.ErrLong},
		{plain("AGENT", ""), api.ErrKind},
		{plain("AGENT", "v"), api.ErrKind},
		{api.Prop{Name: "AGENT", Agent: []api.Card{{}, {}}}, api.ErrKind},
		{api.Prop{Name: "AGENT", Value: "v", Agent: []api.Card{{}}}, api.ErrKind},
		{api.Prop{Name: "A", Agent: []api.Card{{}}}, api.ErrKind},
		{api.Prop{Name: "A", Agent: []api.Card{{}, {}}}, api.ErrKind},
		{agent(filled(mostProps + 1).Props...), api.ErrFull},
		{agent(plain("A", ""), plain("END", "")), api.ErrName},
		{agent(plain("A", long)), api.ErrLong},
		{agent(plain("A", ""), plain("AGENT", "")), api.ErrKind},
	}
}

// 10.1: each error of a property alone, and each pair of them in two properties, at the first, a middle and the last one, and within an Agent.
func TestCheckFaults(t *testing.T) {
	for _, one := range faults() {
		for _, count := range []int{1, 2, 3, 9, mostProps} {
			for _, at := range []int{0, count / 2, count - 1} {
				c := filled(count)
				c.Props[at] = one.p
				wrong(t, c, one.e)
				wrong(t, card(agent(c.Props...)), one.e)
				wrong(t, card(plain("FN", "a"), agent(c.Props...), plain("TEL", "1")), one.e)
				for _, other := range faults() {
					c.Props[count-1-at] = other.p
					c.Props[at] = one.p
					want := one.e
					if count-1-at < at {
						want = other.e
					}
					wrong(t, c, want)
					wrong(t, card(agent(c.Props...)), want)
					wrong(t, card(agent(one.p), other.p), one.e)
					wrong(t, card(one.p, agent(other.p)), one.e)
				}
			}
		}
		c := filled(mostProps)
		c.Props = append(c.Props, one.p)
		wrong(t, c, api.ErrFull)
		c.Props[0] = one.p
		wrong(t, c, api.ErrFull)
		wrong(t, card(one.p, agent(c.Props...)), one.e)
	}
}

// 10.1: of several errors of one property the one that is named first.
func TestCheckFirst(t *testing.T) {
	groups := []string{"", "G", "g"}
	names := []string{"N", "n", "AGENT", "BEGIN", "END", "VERSION"}
	lists := [][]api.Param{
		nil, times(4, "X", "y"), times(5, "X", "y"), times(6, "", "Y"), times(7, "X", "y"), params("X", ""), params("ENCODING", "B"), params("", "BASE64"), params("", "y"),
		append(times(4, "", "Y"), params("", ";")...), append(times(6, "X", "y"), params("", ";")...), append(params("CHARSET", "X"), times(4, "", "Y")...), append(params("", "y"), times(3, "", "Y")...),
	}
	values := []string{"", "v", strings.Repeat("v", mostValue), strings.Repeat("v", mostValue+1), "\x00\n", strings.Repeat("\r", mostValue+1), strings.Repeat("v", 5000)}
	agents := [][]api.Card{nil, {}, {{}}, {{}, {}}, {card(plain("FN", "a"))}, {card(plain("fn", "a"))}, {filled(25)}, {{}, filled(25)}, {nested(2)}, {nested(2, plain("END", ""))}, {nested(3)}, {{}, nested(3)}}
	count := map[api.Errno]int{}
	for _, group := range groups {
		for _, name := range names {
			for _, list := range lists {
				for _, value := range values {
					for _, within := range agents {
						p := api.Prop{Group: group, Name: name, Params: list, Value: value, Agent: within}
						count[checked(t, card(p))]++
						checked(t, card(plain("A", ""), agent(plain("B", ""), p)))
					}
				}
			}
		}
	}
	for _, e := range []api.Errno{api.OK, api.ErrDeep, api.ErrFull, api.ErrName, api.ErrField, api.ErrLong, api.ErrKind} {
		if count[e] < 30 {
			t.Errorf("%d cards with %v", count[e], e)
		}
	}
	worst := api.Prop{Group: "g", Name: "BEGIN", Params: append(times(6, "", "y"), params("", ";")...), Value: strings.Repeat("v", mostValue+1), Agent: []api.Card{filled(25)}}
	wrong(t, card(worst), api.ErrName)
	worst.Group = "G"
	wrong(t, card(worst), api.ErrFull)
	worst.Params = append(times(5, "", "y"), params("", ";")...)
	wrong(t, card(worst), api.ErrField)
	worst.Params = times(6, "", "y")
	wrong(t, card(worst), api.ErrFull)
	worst.Params = times(4, "", "y")
	wrong(t, card(worst), api.ErrField)
	worst.Params = times(4, "", "Y")
	wrong(t, card(worst), api.ErrName)
	worst.Name = "N"
	wrong(t, card(worst), api.ErrLong)
	worst.Value = ""
	wrong(t, card(worst), api.ErrKind)
	worst.Name = "AGENT"
	wrong(t, card(worst), api.ErrFull)
}

// deepOr is what is wrong with a third card within others that has a property: an error, or that it is too deep.
func deepOr(p api.Prop, e api.Errno) api.Errno {
	if len(p.Agent) > 0 {
		return api.ErrDeep
	}
	return e
}

// 10.1: cards within one another, first of all.
func TestCheckDeep(t *testing.T) {
	for count := 1; count <= 12; count++ {
		for _, l := range [][]api.Prop{nil, {plain("FN", "a")}, filled(mostProps).Props} {
			if c := nested(count, l...); count <= 3 {
				right(t, c)
			} else {
				wrong(t, c, api.ErrDeep)
			}
		}
	}
	deep := agent(nested(3).Props...)
	right(t, card(agent(nested(2).Props...)))
	wrong(t, card(deep), api.ErrDeep)
	for _, one := range faults() {
		wrong(t, card(one.p, deep), api.ErrDeep)
		wrong(t, card(deep, one.p), api.ErrDeep)
		wrong(t, nested(4, one.p), api.ErrDeep)
		wrong(t, nested(5, one.p), api.ErrDeep)
		wrong(t, card(api.Prop{Name: "AGENT", Agent: []api.Card{card(one.p), nested(3)}}), api.ErrDeep)
		wrong(t, nested(3, one.p), deepOr(one.p, one.e))
	}
	many := filled(100)
	many.Props[99] = deep
	wrong(t, many, api.ErrDeep)
	many.Props[99] = agent()
	wrong(t, many, api.ErrFull)
	// cards lie within one another whatever their property's name is
	wrong(t, card(api.Prop{Name: "A", Agent: []api.Card{nested(3)}}), api.ErrDeep)
	wrong(t, card(api.Prop{Name: "A", Agent: []api.Card{nested(2)}}), api.ErrKind)
}

// 10.1: how many properties and parameters.
func TestCheckCounts(t *testing.T) {
	for _, count := range []int{0, 1, 2, 23, 24, 25, 26, 240, 1 << 16} {
		c := filled(count)
		inner := card(plain("A", ""), agent(c.Props...))
		if count <= mostProps {
			right(t, c)
			right(t, inner)
		} else {
			wrong(t, c, api.ErrFull)
			wrong(t, inner, api.ErrFull)
		}
	}
	for count := range 12 {
		for _, list := range [][]api.Param{times(count, "", "B"), times(count, "X", "b")} {
			for _, p := range []api.Prop{{Name: "A", Params: list}, {Group: "G", Name: "A", Params: list, Value: "\xff"}, {Name: "A", Params: list, Value: "é"}, {Name: "AGENT", Params: list, Agent: []api.Card{{}}}} {
				if count <= mostParams {
					right(t, card(p))
				} else {
					wrong(t, card(p), api.ErrFull)
				}
			}
		}
	}
}

// 10.1: parameters that may not be, and those that are like them.
func TestCheckParams(t *testing.T) {
	for _, value := range []string{"8BIT", "X", "b", "quoted-printable", "UTF-8"} {
		for _, name := range []string{"ENCODING", "CHARSET"} {
			for count := range mostParams {
				list := append(times(count, "", "X"), params(name, value)...)
				wrong(t, card(api.Prop{Name: "A", Params: list}), api.ErrField)
				wrong(t, card(api.Prop{Name: "A", Params: append(list, times(3-count, "B", "c")...)}), api.ErrField)
				wrong(t, card(agent(api.Prop{Name: "A", Params: list})), api.ErrField)
				wrong(t, card(api.Prop{Name: "AGENT", Params: list, Agent: []api.Card{{}}}), api.ErrField)
			}
		}
	}
	for _, s := range []string{"QUOTED-PRINTABLE", "BASE64", "8BIT", "7BIT"} {
		wrong(t, card(api.Prop{Name: "A", Params: params("", s)}), api.ErrField)
		wrong(t, card(api.Prop{Name: "A", Params: params("X", "y", "", s, "", "Z")}), api.ErrField)
		wrong(t, card(api.Prop{Name: "A", Params: params("", strings.ToLower(s))}), api.ErrField)
		for _, list := range [][]api.Param{params("TYPE", s), params("TYPE", strings.ToLower(s)), params("", s+"X"), params("", "X"+s), params("", s[:3]), params("", s[1:])} {
			right(t, card(api.Prop{Name: "A", Params: list}))
			right(t, card(api.Prop{Name: "A", Params: append(list, params("", "X", "", "Y", "", "Z")...)}))
		}
	}
	for _, list := range [][]api.Param{params("", "ENCODING"), params("", "CHARSET"), params("", "UTF-8"), params("", "B"), params("X-ENCODING", "B"), params("ENCODINGS", "B"), params("CHARSE", "x"), params("E", "CHARSET", "C", "ENCODING")} {
		right(t, card(api.Prop{Name: "A", Params: list, Value: "a=b"}))
		right(t, card(api.Prop{Name: "A", Params: list, Value: "\xff"}))
	}
	for _, b := range sample.Bytes() {
		for _, value := range []string{b, b + "X", "X" + b, "X" + b + "Y"} {
			p := api.Prop{Name: "A", Params: params("", value)}
			switch {
			case b < "!" || b > "~" || strings.Contains(";:=", b), strings.Contains(small, b):
				wrong(t, card(p), api.ErrField)
			default:
				right(t, card(p))
			}
			p.Params[0].Name = "X"
			checked(t, card(p))
		}
	}
}

// 10.1: names that may not be, and those that are like them.
func TestCheckNames(t *testing.T) {
	for _, name := range []string{"BEGIN", "END", "VERSION"} {
		for _, p := range []api.Prop{{Name: name}, {Name: name, Value: "VCARD"}, {Group: "G", Name: name, Value: "2.1"}, {Name: name, Params: params("X", "y")}, {Name: name, Agent: []api.Card{{}}}} {
			wrong(t, card(p), api.ErrName)
			wrong(t, card(plain("FN", "a"), p), api.ErrName)
			wrong(t, card(agent(p)), api.ErrName)
		}
		for _, other := range []string{name + "S", "X" + name, name[1:], name[:len(name)-1], name + "-", name + "9"} {
			right(t, card(plain(other, "VCARD")))
		}
		right(t, card(api.Prop{Group: name, Name: "A", Params: params("", name, name, name), Value: name}))
		wrong(t, card(plain(strings.ToLower(name), "")), api.ErrName)
	}
	for _, name := range []string{"", "-", "1", "a", "Agent", "A.B", "A:", "A;B", "É", "\xff", "A\x00", "A\r\n", strings.Repeat("A", 33)} {
		wrong(t, card(plain(name, "")), api.ErrName)
		wrong(t, card(agent(plain(name, ""))), api.ErrName)
		if name != "" {
			wrong(t, card(api.Prop{Group: name, Name: "A"}), api.ErrName)
		}
	}
	long := strings.Repeat("N", 32)
	right(t, card(api.Prop{Group: long, Name: long, Params: times(4, long, strings.Repeat("v", 32))}))
}

// 10.1: a value's length.
func TestCheckValues(t *testing.T) {
	for _, size := range []int{0, 1, 599, 600, 601, 602, 1200, 2400, 2401, 1 << 20} {
		for _, b := range []string{"v", " ", "=", "\x00", "\n", "\t", "\x7f", "\xff", "\xc3\xa9"} {
			value := strings.Repeat(b, size)[:size]
			if size <= mostValue {
				right(t, card(plain("A", value)))
				right(t, card(agent(plain("A", value))))
			} else {
				wrong(t, card(plain("A", value)), api.ErrLong)
				wrong(t, card(agent(plain("A", value))), api.ErrLong)
			}
		}
	}
}

// 10.1: AGENT, and what is like it.
func TestCheckAgent(t *testing.T) {
	one, two := []api.Card{card(plain("FN", "a"))}, []api.Card{card(plain("FN", "a")), card(plain("FN", "b"))}
	for _, group := range []string{"", "HOME"} {
		for _, list := range [][]api.Param{nil, params("TYPE", "work", "", "X")} {
			p := api.Prop{Group: group, Name: "AGENT", Params: list, Agent: one}
			right(t, card(p))
			for _, within := range [][]api.Card{nil, {}, two, make([]api.Card, 3), make([]api.Card, 1<<10)} {
				p.Agent = within
				wrong(t, card(p), api.ErrKind)
				p.Value = "v"
				wrong(t, card(p), api.ErrKind)
				p.Value = ""
			}
			for _, value := range []string{"v", " ", "\x00", "\xff", strings.Repeat("v", mostValue)} {
				wrong(t, card(api.Prop{Group: group, Name: "AGENT", Params: list, Agent: one, Value: value}), api.ErrKind)
			}
			for _, name := range []string{"A", "AGENTS", "AGEN", "X-AGENT", "AGENT-", "FN"} {
				for _, within := range [][]api.Card{{{}}, one, two, make([]api.Card, 1<<10)} {
					wrong(t, card(api.Prop{Group: group, Name: name, Params: list, Agent: within}), api.ErrKind)
					wrong(t, card(api.Prop{Group: group, Name: name, Params: list, Agent: within, Value: "v"}), api.ErrKind)
				}
				right(t, card(api.Prop{Group: group, Name: name, Params: list, Agent: []api.Card{}}))
			}
		}
	}
	right(t, card(api.Prop{Group: "AGENT", Name: "A", Value: "v"}))
	right(t, card(agent(), agent(plain("A", "b")), agent(agent(), agent())))
}

// 10.1: a text's length: that of the outermost card alone, and behind all others.
func TestCheckText(t *testing.T) {
	for _, size := range []int{1000, 3999, 4000, 4001, 4002, 8000} {
		c := sized(size)
		if text := printWords(c); len(text) != size {
			t.Fatalf("a text of %d bytes, not %d", len(text), size)
		}
		// The card around it has 37 bytes of its own, and a line of 8 for the property.
		around := card(agent(sized(size - 45).Props...))
		if text := printWords(around); len(text) != size {
			t.Fatalf("a text of %d bytes, not %d", len(text), size)
		}
		if size <= mostText {
			right(t, c)
			right(t, around)
		} else {
			wrong(t, c, api.ErrLong)
			wrong(t, around, api.ErrLong)
		}
	}
	// each byte counts: lines' ends, folds, letters that are written as three or four
	for _, value := range []string{"v", "v ", "=", "\t", "\x00", "é", "\xff"} {
		ok, long := 0, 0
		for size := range mostValue + 1 {
			c := sized(3398)
			c.Props = append(c.Props, plain("B", strings.Repeat(value, size)[:size]))
			if checked(t, c) == api.OK {
				ok++
			} else {
				long++
			}
		}
		if ok < 100 || long < 1 {
			t.Errorf("values of %q: %d are right, %d make a text too long", value, ok, long)
		}
	}
	for _, one := range faults() {
		for _, size := range []int{3900, 4001, 9000} {
			inner := agent(sized(size).Props...)
			wrong(t, card(inner, one.p), one.e)
			wrong(t, card(agent(inner, one.p)), one.e)
			wrong(t, card(one.p, inner), one.e)
			c := sized(size)
			c.Props = append(c.Props, one.p)
			wrong(t, c, one.e)
		}
	}
	wrong(t, card(agent(sized(4001).Props...)), api.ErrLong)
	wrong(t, card(agent(agent(sized(4001).Props...))), api.ErrLong)
	full := plain("A", strings.Repeat("\x00", mostValue))
	var all api.Card
	for range mostProps {
		all.Props = append(all.Props, full)
	}
	wrong(t, all, api.ErrLong)
	whole := card(slices.Repeat([]api.Prop{agent(slices.Repeat([]api.Prop{agent(all.Props...)}, mostProps)...)}, mostProps)...)
	if e := vcard.Check(whole); e != api.ErrLong {
		t.Errorf("Check of as many properties as there may be: %v", e)
	}
}

// mixedProps are properties, more of them right than wrong; cards lie within one another up to so many.
func mixedProps(count, deep, salt int) []api.Prop {
	values := []string{"a", "B", "=", "=3D", ";", ":", " ", "  ", "\t", "\x00", "\r\n", "é", "ÿ", "😀", "\xff", "\x80", "word and word", "END:VCARD", strings.Repeat("x", 70), strings.Repeat(" y", 40), strings.Repeat("\xfe", 50), strings.Repeat("ü", 30)}
	texts := sample.Mixed(count+salt, 6, values)[salt:]
	simple := sample.Mixed(count+salt, 3, values[:8])[salt:]
	names := sample.Mixed(count+salt+9, 3, []string{"A", "B-", "TEL", "X0", "N"})[salt:]
	words := sample.Mixed(count+salt+9, 3, []string{"A", "B", "HOME", "-", "1", "BIT", "8", "!"})[salt:]
	l := make([]api.Prop, count)
	for i := range l {
		at := i + salt
		p := api.Prop{Group: names[i], Name: "N" + names[i+1], Value: texts[i]}
		if at%3 == 0 {
			p.Value = simple[i]
		}
		for j := range at % 5 {
			q := api.Param{Name: names[i+j+2], Value: "V" + words[i+j]}
			if (at/5+j)%2 == 0 {
				q.Value += strings.ToLower(words[i+j+1])
				q.Name = "P" + q.Name
			}
			p.Params = append(p.Params, q)
		}
		switch {
		case at%7 == 0 && deep > 1:
			p.Name, p.Value = "AGENT", ""
			p.Agent = []api.Card{card(mixedProps(at/7%4, deep-1, at%97)...)}
		case at%83 == 1:
			l[i] = faults()[at/83%len(faults())].p
			continue
		}
		l[i] = p
	}
	return l
}

// mixedCards are cards, more of them right than wrong.
func mixedCards(count int) []api.Card {
	all := mixedProps(9000, 3, 0)
	l := make([]api.Card, count)
	at := 0
	for i := range l {
		size := i * 7 % 11
		if i%97 == 5 {
			size = mostProps + i%2
		}
		if at+size > len(all) {
			at = i % 13
		}
		l[i] = card(all[at : at+size]...)
		at += size
	}
	return l
}

// 10.1 and 10.3: many cards.
func TestCheckMany(t *testing.T) {
	count := map[api.Errno]int{}
	for _, c := range mixedCards(4000) {
		count[checked(t, c)]++
	}
	for _, e := range []api.Errno{api.ErrFull, api.ErrName, api.ErrField, api.ErrLong, api.ErrKind} {
		if count[e] < 10 {
			t.Errorf("%d cards with %v", count[e], e)
		}
	}
	if count[api.OK] < 2000 {
		t.Errorf("%d cards are right", count[api.OK])
	}
}
