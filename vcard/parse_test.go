package vcard_test

import (
	"regexp"
	"slices"
	"strings"
	"testing"

	"cardcase/api"
	"cardcase/charset"
	"cardcase/lines"
	"cardcase/prop"
	"cardcase/quoted"
	"cardcase/sample"
	"cardcase/sixbit"
	"cardcase/vcard"
)

// numbered is a line and its number.
type numbered struct {
	number int
	line   string
}

// stopped is what 10.2 finds wrong, and where.
type stopped struct {
	at int
	e  api.Errno
}

// words are the lines that are left to 10.2, said once more.
type words struct{ left []numbered }

// line is the next line, blank or not.
func (w *words) line() numbered {
	if len(w.left) == 0 {
		panic(stopped{0, api.ErrShort})
	}
	next := w.left[0]
	w.left = w.left[1:]
	return next
}

// ink is the next line that is not blank.
func (w *words) ink() numbered {
	for {
		if next := w.line(); strings.Trim(next.line, "\x20\x09") != "" {
			return next
		}
	}
}

// stop ends it, if something is wrong with a line.
func (n numbered) stop(wrong bool, e api.Errno) {
	if wrong && e != api.OK {
		panic(stopped{n.number, e})
	}
}

// card is a card that lies within others, so many of them with it.
func (w *words) card(level int) api.Card {
	for _, want := range []string{"BEGIN:VCARD", "VERSION:2.1"} {
		n := w.ink()
		n.stop(upper(n.line) != want, api.ErrField)
	}
	var c api.Card
	for {
		n := w.ink()
		if upper(n.line) == "END:VCARD" {
			return c
		}
		n.stop(len(c.Props) == mostProps, api.ErrFull)
		p := w.prop(n)
		if p.Name == "AGENT" {
			n.stop(p.Value != "", api.ErrKind)
			n.stop(level == 3, api.ErrDeep)
			p.Agent = []api.Card{w.card(level + 1)}
		}
		c.Props = append(c.Props, p)
	}
}

// isFour are the values that say without a name how a value is written.
var isFour = regexp.MustCompile(`\A(QUOTED-PRINTABLE|BASE64|8BIT|7BIT)\z`)

// prop is the property of a line, but for its Agent.
func (w *words) prop(n numbered) api.Prop {
	p, _, e := prop.Parse(n.line)
	n.stop(true, e)
	var left, how, letters []api.Param
	for _, q := range p.Params {
		switch {
		case q.Name == "CHARSET":
			letters = append(letters, q)
		case q.Name == "ENCODING", q.Name == "" && isFour.MatchString(q.Value):
			how = append(how, q)
		default:
			left = append(left, q)
		}
	}
	p.Params = left
	switch upper(append(how, api.Param{Value: "8bit"})[0].Value) {
	case "QUOTED-PRINTABLE":
		for strings.HasSuffix(p.Value, "=") {
			p.Value = p.Value[:len(p.Value)-1] + w.line().line
		}
		p.Value, e = quoted.Decode(p.Value)
	case "BASE64", "B":
		p.Value, e = sixbit.Decode(p.Value)
	case "8BIT", "7BIT":
	default:
		e = api.ErrKind
	}
	n.stop(true, e)
	if len(letters) > 0 {
		n.stop(!slices.Contains([]string{"US-ASCII", "ISO-8859-1", "UTF-8"}, upper(letters[0].Value)), api.ErrName)
		p.Value, e = charset.Decode(charset.Named(letters[0].Value), p.Value)
		n.stop(true, e)
	}
	n.stop(len(p.Value) > mostValue, api.ErrLong)
	n.stop(len(p.Params) > mostParams, api.ErrFull)
	n.stop(slices.Contains([]string{"BEGIN", "END", "VERSION"}, p.Name), api.ErrName)
	return p
}

// parseWords is 10.2 said once more.
func parseWords(s string) (c api.Card, at int, e api.Errno) {
	if len(s) > mostText {
		return api.Card{}, 0, api.ErrLong
	}
	defer func() {
		if found, ok := recover().(stopped); ok {
			c, at, e = api.Card{}, found.at, found.e
		}
	}()
	var w words
	for number, line := range lines.Each(s) {
		w.left = append(w.left, numbered{number, line})
	}
	c = w.card(1)
	for _, n := range w.left {
		n.stop(strings.Trim(n.line, "\x20\x09") != "", api.ErrMore)
	}
	return c, 0, api.OK
}

// parsed holds Parse against what it must answer.
func parsed(t *testing.T, s string, want api.Card, wantAt int, wantE api.Errno) {
	t.Helper()
	c, at, e := vcard.Parse(s)
	if !alike(c, want) || at != wantAt || e != wantE {
		t.Errorf("Parse(%.600q): %.300q, %d and %v, not %.300q, %d and %v", s, c, at, e, want, wantAt, wantE)
	}
	// 10.3: what is read may be, but that its text may be too long.
	if may := vcard.Check(c); wantE == api.OK && may != api.OK && may != api.ErrLong {
		t.Errorf("Check of what Parse(%.600q) tells: %v", s, may)
	}
}

// read holds Parse of a text against a card.
func read(t *testing.T, s string, want api.Card) {
	t.Helper()
	parsed(t, s, want, 0, api.OK)
}

// stops holds Parse of a text against an error and its line.
func stops(t *testing.T, s string, at int, e api.Errno) {
	t.Helper()
	parsed(t, s, api.Card{}, at, e)
}

// parsedWords holds Parse against 10.2's words, and answers the error.
func parsedWords(t *testing.T, s string) api.Errno {
	t.Helper()
	c, at, e := parseWords(s)
	parsed(t, s, c, at, e)
	return e
}

// one holds Parse against a property that it must answer of a card with these lines.
func one(t *testing.T, want api.Prop, l ...string) {
	t.Helper()
	read(t, cardText(l...), card(want))
	read(t, cardText(slices.Concat([]string{"FN:a", "AGENT:", "BEGIN:VCARD", "VERSION:2.1"}, l, []string{"END:VCARD", "TEL:1"})...), card(plain("FN", "a"), agent(want), plain("TEL", "1")))
}

// bad holds Parse against an error of a card with these lines, at the first of them, wherever they stand.
func bad(t *testing.T, e api.Errno, l ...string) {
	t.Helper()
	stops(t, cardText(l...), 3, e)
	stops(t, cardText(append(l, "FN:a")...), 3, e)
	stops(t, cardText(append([]string{"FN:a", "", "TEL:1", " 2"}, l...)...), 7, e)
	stops(t, cardText(slices.Concat([]string{"FN:a"}, l, []string{"FN;ENCODING=X:a"})...), 4, e)
	stops(t, cardText(append(slices.Repeat([]string{"A:"}, mostProps-1), l...)...), mostProps+2, e)
	stops(t, cardText(append([]string{"A:", "AGENT:", "BEGIN:VCARD", "VERSION:2.1"}, append(l, "END:VCARD", "B:")...)...), 7, e)
}

// 10.2: texts that are right.
func TestParse(t *testing.T) {
	read(t, cardText(), card())
	read(t, cardText("FN:a"), card(plain("FN", "a")))
	read(t, cardText("fn:a", "home.tel;type=work;voice:12", "N:Ann;Ex"), card(plain("FN", "a"), api.Prop{Group: "HOME", Name: "TEL", Params: params("TYPE", "work", "", "VOICE"), Value: "12"}, plain("N", "Ann;Ex")))
	read(t, cardText("X:END:VCARD", "Y: END:VCARD", "Z:BEGIN:VCARD"), card(plain("X", "END:VCARD"), plain("Y", " END:VCARD"), plain("Z", "BEGIN:VCARD")))
	read(t, cardText("A: a "), card(plain("A", " a ")))
	read(t, cardText("A:\t"), card(plain("A", "\t")))
	read(t, cardText("A:\xff\x01\x7f"), card(plain("A", "\xff\x01\x7f")))
	// small letters
	read(t, text("begin:vcard", "version:2.1", "a:b", "end:vcard"), card(plain("A", "b")))
	read(t, text("Begin:vCard", "Version:2.1", "A:b", "enD:VcarD"), card(plain("A", "b")))
	read(t, text("begin:vcard", "version:2.1", "agent:", "begin:vcard", "version:2.1", "end:vcard", "end:vcard"), card(agent()))
	// lines' ends, and a last line without one
	read(t, "BEGIN:VCARD\nVERSION:2.1\nA:b\nEND:VCARD\n", card(plain("A", "b")))
	read(t, "BEGIN:VCARD\nVERSION:2.1\r\nA:b\nEND:VCARD\r\n", card(plain("A", "b")))
	read(t, "BEGIN:VCARD\r\nVERSION:2.1\r\nA:b\r\nEND:VCARD", card(plain("A", "b")))
	read(t, "BEGIN:VCARD\nVERSION:2.1\nEND:VCARD", card())
	// folded lines
	read(t, cardText("A:b", " c", "\td", "E:", "  f"), card(plain("A", "b c\td"), plain("E", "  f")))
	read(t, cardText("A:b ", " ", "\t", " c"), card(plain("A", "b  \t c")))
	// an Agent, and two
	read(t, cardText("HOME.agent;type=x:", "begin:vcard", "VERSION:2.1", "FN:b", "END:VCARD", "TEL:1"), card(api.Prop{Group: "HOME", Name: "AGENT", Params: params("TYPE", "x"), Agent: []api.Card{card(plain("FN", "b"))}}, plain("TEL", "1")))
	read(t, cardText("AGENT:", "BEGIN:VCARD", "VERSION:2.1", "END:VCARD", "AGENT:", "BEGIN:VCARD", "VERSION:2.1", "A:", "END:VCARD"), card(agent(), agent(plain("A", ""))))
	read(t, cardText(strings.Split(strings.Repeat("AGENT:|BEGIN:VCARD|VERSION:2.1|A:b|", 2)+"END:VCARD|C:d|END:VCARD|E:f", "|")...), card(agent(plain("A", "b"), agent(plain("A", "b")), plain("C", "d")), plain("E", "f")))
}

// 10.2: blank lines are passed over, wherever they stand, and count.
func TestParseBlankLines(t *testing.T) {
	l := []string{"BEGIN:VCARD", "VERSION:2.1", "A:b", "AGENT:", "BEGIN:VCARD", "VERSION:2.1", "C:d", "END:VCARD", "E:f", "END:VCARD"}
	want := card(plain("A", "b"), agent(plain("C", "d")), plain("E", "f"))
	read(t, text(l...), want)
	for i := range len(l) + 1 {
		for _, blank := range [][]string{{""}, {"", ""}, {"", " "}, {"", "\t", " \t "}, slices.Repeat([]string{""}, 100)} {
			with := slices.Concat(l[:i], blank, l[i:])
			read(t, text(with...), want)
			if i < len(l) {
				broken := slices.Clone(with)
				broken[i+len(blank)] = ";"
				e := api.ErrShort
				if slices.Contains([]int{0, 1, 4, 5}, i) {
					e = api.ErrField
				}
				stops(t, text(broken...), i+len(blank)+1, e)
			}
		}
	}
	read(t, text(" ")+text(l...), want)
	read(t, text("\t \t")+text(l...), want)
	stops(t, "\n "+text(l...), 1, api.ErrField)
	// a blank line of another kind is none
	for _, blank := range []string{"\r", "\x00", "\x0b", "\x0c", "\u00a0", "\u2003", "\x7f", "\r ", "\u0085"} {
		stops(t, text(blank)+text(l...), 1, api.ErrField)
		stops(t, text(" "+blank)+text(l...), 1, api.ErrField)
		stops(t, text(l...)+text(blank)+"X", len(l)+1, api.ErrMore)
		stops(t, text(l...)+text("", " "+blank)+"X", len(l)+1, api.ErrMore)
	}
}

// 10.2: s ends.
func TestParseShort(t *testing.T) {
	for _, s := range []string{"", " ", "\n", "\r\n\r\n", " \n \t\n", "\t"} {
		stops(t, s, 0, api.ErrShort)
	}
	l := []string{"BEGIN:VCARD", "VERSION:2.1", "A:b", "AGENT:", "BEGIN:VCARD", "VERSION:2.1", "AGENT:", "BEGIN:VCARD", "VERSION:2.1", "C:d", "END:VCARD", "END:VCARD", "E;QUOTED-PRINTABLE:f=", "g", "END:VCARD"}
	for count := range len(l) {
		for _, behind := range []string{"", "\n", "\r\n\r\n", " \n"} {
			if count == 13 && behind != "" {
				continue
			}
			s := text(l[:count]...) + behind
			if behind == " \n" && count > 0 {
				s = text(l[:count]...) + "\n \n"
			}
			stops(t, s, 0, api.ErrShort)
		}
	}
	stops(t, text(l[:13]...)+"\n", 0, api.ErrShort)
	read(t, text(l...), card(plain("A", "b"), agent(agent(plain("C", "d"))), plain("E", "fg")))
}

// 10.2: what stands for the first two lines of a card.
func TestParseFirstLines(t *testing.T) {
	for _, line := range []string{"A:b", "BEGIN:VCARDS", "BEGIN:VCARD ", "BEGIN: VCARD", "BEGIN:VCAR", "BEGIN;X:VCARD", "G.BEGIN:VCARD", "BEGIN", "END:VCARD", "VERSION:2.1", "\ufeffBEGIN:VCARD", "BEGIN:VCARD\x00", "\x00", "ＢEGIN:VCARD", "BEGİN:VCARD", "BEGıN:VCARD", "begın:vcard", "BEGIN:VCARD\r", "BEGIN=3AVCARD", strings.Repeat("B", 3900)} {
		stops(t, line, 1, api.ErrField)
		stops(t, text(line, "VERSION:2.1", "END:VCARD"), 1, api.ErrField)
		stops(t, text("", line, "VERSION:2.1", "END:VCARD"), 2, api.ErrField)
		stops(t, cardText("AGENT:", line, "VERSION:2.1", "END:VCARD"), 4, api.ErrField)
		if len(line) < 99 {
			stops(t, cardText("A:b", "AGENT:", "BEGIN:VCARD", "VERSION:2.1", "B:c", "AGENT:", "", line, "VERSION:2.1", "END:VCARD", "END:VCARD"), 10, api.ErrField)
		}
	}
	for _, line := range []string{"A:b", "VERSION:3.0", "VERSION:2.10", "VERSION:2", "VERSION: 2.1", "VERSION:2.1 ", "VERSION", "G.VERSION:2.1", "VERSION;X:2.1", "VERſION:2.1", "verſion:2.1", "BEGIN:VCARD", "END:VCARD", "\xff"} {
		stops(t, text("BEGIN:VCARD", line, "END:VCARD"), 2, api.ErrField)
		stops(t, text("BEGIN:VCARD", line), 2, api.ErrField)
		stops(t, text("BEGIN:VCARD", "", "", line, "END:VCARD"), 4, api.ErrField)
		stops(t, cardText("AGENT:", "BEGIN:VCARD", line, "END:VCARD"), 5, api.ErrField)
	}
	// lines that go on are one
	read(t, "BEGIN:VCARD\nVERSION:2.1\nEND:VCARD\n", card())
	stops(t, "BEGIN:VCARD\n \nVERSION:2.1\nEND:VCARD\n", 1, api.ErrField)
	stops(t, "BEGIN:\n VCARD\nVERSION:2.1\nEND:VCARD\n", 1, api.ErrField)
	stops(t, "BEGIN:VCARD\nVERSION:2.1\n\t\nEND:VCARD\n", 2, api.ErrField)
}

// 10.2: what ends a card, and what is like it.
func TestParseEnd(t *testing.T) {
	for line, e := range map[string]api.Errno{
		"END:VCARDS": api.ErrName, "END:": api.ErrName, "end:vcards": api.ErrName, "END: VCARD": api.ErrName, "END:VCARD ": api.ErrName, "END;X:VCARD": api.ErrName, "G.END:VCARD": api.ErrName,
		"BEGIN:VCARD": api.ErrName, "begin:vcard": api.ErrName, "VERSION:2.1": api.ErrName, "BEGIN:": api.ErrName, "version:3.0": api.ErrName, "g.version;a=b:": api.ErrName, "G.BEGIN:x": api.ErrName,
		"END": api.ErrShort, "ENDVCARD": api.ErrShort, "END:VCARD\r": api.ErrField, "END :VCARD": api.ErrName, "\x00END:VCARD": api.ErrName, "END:VCARD\x00": api.ErrField,
	} {
		bad(t, e, line)
	}
	stops(t, text("BEGIN:VCARD", "VERSION:2.1", "END:VCARD ", ""), 3, api.ErrName)
	stops(t, "BEGIN:VCARD\nVERSION:2.1\nEND:VCARD\r", 3, api.ErrField)
	for _, l := range [][]string{{"X"}, {"X", "Y"}, {"BEGIN:VCARD"}, {"BEGIN:VCARD", "VERSION:2.1", "END:VCARD"}, {"END:VCARD"}, {"A:b"}, {"\x00"}, {"\xff"}, {"\r"}, {"\u00a0"}} {
		stops(t, cardText()+text(l...), 4, api.ErrMore)
		stops(t, cardText("A:b")+text(append([]string{"", ""}, l...)...), 7, api.ErrMore)
		stops(t, cardText("AGENT:", "BEGIN:VCARD", "VERSION:2.1", "END:VCARD")+text(append([]string{""}, l...)...), 9, api.ErrMore)
		stops(t, cardText()+"\n \t\n"+strings.Join(l, "\n"), 6, api.ErrMore)
	}
	for _, behind := range []string{"", "\n", "\r\n", "\r\n\r\n\r\n", "\n \n", "\n\t\t \n \n", "\n "} {
		read(t, cardText("A:b")+behind, card(plain("A", "b")))
	}
	stops(t, cardText("A:b")+" ", 4, api.ErrName)
}

// 10.2: the 25th property, of each card by itself.
func TestParseFull(t *testing.T) {
	full := slices.Repeat([]string{"A:"}, mostProps)
	read(t, cardText(full...), filled(mostProps))
	read(t, cardText(slices.Concat([]string{"AGENT:", "BEGIN:VCARD", "VERSION:2.1"}, full, []string{"END:VCARD"}, full[1:])...), card(append([]api.Prop{agent(filled(mostProps).Props...)}, filled(mostProps-1).Props...)...))
	for _, line := range []string{"A:", "", ";", "A", "BEGIN:VCARD", "A;ENCODING=X:", "AGENT:", "AGENT:v", "A;QUOTED-PRINTABLE:=", "\x00", "END:VCARDS"} {
		e := api.ErrFull
		if line == "" {
			read(t, cardText(append(full, line)...), filled(mostProps))
			continue
		}
		stops(t, cardText(append(full, line)...), 27, e)
		stops(t, cardText(append(full, "", line)...), 28, e)
		stops(t, cardText(slices.Concat([]string{"AGENT:", "BEGIN:VCARD", "VERSION:2.1"}, full, []string{line, "END:VCARD"})...), 30, e)
		stops(t, cardText(slices.Concat([]string{"AGENT:", "BEGIN:VCARD", "VERSION:2.1", "END:VCARD"}, full[1:], []string{line})...), 30, e)
	}
	for count := mostProps; count < 400; count += 25 {
		stops(t, cardText(slices.Repeat([]string{"A:"}, count+1)...), 27, api.ErrFull)
	}
}

// 10.2: a line that is no property.
func TestParseLines(t *testing.T) {
	for line, e := range map[string]api.Errno{
		"A": api.ErrShort, "a;b": api.ErrShort, "\xff": api.ErrShort, "AGENT": api.ErrShort, ":": api.ErrName, ".:": api.ErrName, "1:": api.ErrName, "a b:": api.ErrName, "\xff:": api.ErrName, "a.1:": api.ErrName,
		"A;:": api.ErrField, "A;=:": api.ErrField, "A;b;;c:": api.ErrField, "A;\xff:": api.ErrField, "A;b;c;d;e;f;g;h:": api.ErrFull, "A;8BIT;8BIT;8BIT;8BIT;8BIT;8BIT;8BIT:": api.ErrFull,
		"A:\x00": api.ErrField, "A:\r": api.ErrField, "A:b\rc": api.ErrField, "A;ENCODING=X:\x00": api.ErrField, "END:\x00": api.ErrField, "A:" + strings.Repeat("v", 2401): api.ErrLong, "AGENT:\x00": api.ErrField,
	} {
		bad(t, e, line)
	}
	bad(t, api.ErrLong, "A:"+strings.Repeat("v", 601))
	bad(t, api.ErrLong, "A:"+strings.Repeat("v", 2400))
	stops(t, cardText("A:b", "c"), 4, api.ErrShort)
	stops(t, cardText("A:b", "", "C:d", " e", "f;", "END"), 7, api.ErrShort)
}

// 10.2: each of the ways in which a value is written.
func TestParseWays(t *testing.T) {
	for _, way := range []string{"QUOTED-PRINTABLE", "quoted-printable", "Quoted-Printable"} {
		for _, head := range []string{"A;" + way, "A;ENCODING=" + way, "a;encoding=" + way} {
			one(t, plain("A", "b=é"), head+":b=3D=C3=a9")
			one(t, plain("A", ""), head+":")
			one(t, plain("A", "\x00\r\n\xff "), head+":=00=0D=0A=FF ")
			one(t, plain("A", " b c\td"), head+": b c", "\td")
			bad(t, api.ErrField, head+":=4g")
			bad(t, api.ErrShort, head+":b=4")
			bad(t, api.ErrField, head+":\xff")
			bad(t, api.ErrField, head+":é")
			bad(t, api.ErrField, head+":b= ")
		}
	}
	for _, way := range []string{"BASE64", "base64", "Base64", "ENCODING=BASE64", "encoding=base64", "ENCODING=B", "Encoding=b"} {
		one(t, plain("A", "\xe9"), "A;"+way+": 6Q==")
		one(t, plain("A", "\xe9"), "A;"+way+":6Q==")
		one(t, plain("A", "\xe9"), "A;"+way+":", " 6", "\tQ =", " =", "")
		one(t, plain("A", ""), "A;"+way+":")
		one(t, plain("A", ""), "A;"+way+": ")
		one(t, plain("A", "\x00\n"), "A;"+way+":AAo=")
		bad(t, api.ErrField, "A;"+way+":YR==")
		bad(t, api.ErrMore, "A;"+way+":YQ==YQ==")
		bad(t, api.ErrShort, "A;"+way+":YQ")
		bad(t, api.ErrField, "A;"+way+":a-b_")
		bad(t, api.ErrField, "A;"+way+":=")
		bad(t, api.ErrField, "A;"+way+":=", "YQ==")
		bad(t, api.ErrShort, "A;"+way+":YQ=", "YQ==")
	}
	for _, way := range []string{"8BIT", "7BIT", "8bit", "7Bit", "ENCODING=8BIT", "encoding=7bit", "X"} {
		want := plain("A", "b=3D=")
		if way == "X" {
			want.Params = params("", "X")
		}
		one(t, want, "A;"+way+":b=3D=")
		want.Value = "\xff\x80YQ=="
		one(t, want, "A;"+way+":\xff\x80YQ==")
	}
	one(t, plain("A", "b=3D="), "A:b=3D=")
	// without a name B says nothing; by another name nothing does
	one(t, api.Prop{Name: "A", Params: params("", "B"), Value: "YQ=="}, "A;b:YQ==")
	one(t, api.Prop{Name: "A", Params: params("TYPE", "BASE64", "X", "quoted-printable"), Value: "YQ=="}, "A;type=BASE64;x=quoted-printable:YQ==")
	one(t, api.Prop{Name: "A", Params: params("", "ENCODING", "", "CHARSET"), Value: "=3D"}, "A;encoding;charset:=3D")
	// another way
	for _, way := range []string{"X", "QUOTED", "QUOTEDPRINTABLE", "QUOTED-PRINTABLES", "BASE", "BASE32", "BASE64X", "8", "BIT", "16BIT", "BINARY", "UTF-8", "Q", "BB", "ENCODING", "-"} {
		bad(t, api.ErrKind, "A;ENCODING="+way+":")
		bad(t, api.ErrKind, "A;encoding="+strings.ToLower(way)+":=3D=")
		bad(t, api.ErrKind, "AGENT;ENCODING="+way+":v")
		bad(t, api.ErrKind, "A;ENCODING="+way+";BASE64:YQ==")
		bad(t, api.ErrKind, "A;ENCODING="+way+";ENCODING=BASE64:YQ==")
		bad(t, api.ErrKind, "END;ENCODING="+way+";CHARSET=X;a;b;c;d:"+strings.Repeat("v", 601))
	}
	// the first of several
	one(t, plain("A", "a"), "A;BASE64;QUOTED-PRINTABLE:YQ==")
	one(t, plain("A", "a"), "A;ENCODING=B;QUOTED-PRINTABLE;ENCODING=X:YQ==")
	one(t, plain("A", "a"), "A;BASE64;ENCODING=X:YQ==")
	one(t, plain("A", "YQ=="), "A;8BIT;BASE64:YQ==")
	one(t, plain("A", "YQ="), "A;QUOTED-PRINTABLE;BASE64:YQ=3D")
	one(t, plain("A", "YQ=="), "A;7bit;ENCODING=BASE64:YQ==")
	one(t, api.Prop{Name: "A", Params: params("", "X", "Y", "BASE64", "", "B"), Value: "=3D"}, "A;X;Y=BASE64;b;8BIT;QUOTED-PRINTABLE:=3D")
	one(t, plain("A", "="), "A;CHARSET=US-ASCII;QUOTED-PRINTABLE;BASE64:=3D")
	bad(t, api.ErrField, "A;QUOTED-PRINTABLE;ENCODING=X:=ZZ")
}

// 10.2: an = at the end of a line.
func TestParseSoftEnds(t *testing.T) {
	for _, head := range []string{"A;QUOTED-PRINTABLE:", "A;ENCODING=quoted-printable:", "A;CHARSET=UTF-8;ENCODING=QUOTED-PRINTABLE:"} {
		one(t, plain("A", "bc"), head+"b=", "c")
		one(t, plain("A", "bcd"), head+"b=", "c=", "d")
		one(t, plain("A", "c"), head+"=", "c")
		one(t, plain("A", "b"), head+"b=", "")
		one(t, plain("A", ""), head+"=", "")
		one(t, plain("A", ""), head+"==", "", "")
		one(t, plain("A", "bc"), head+"b==", "", "c")
		one(t, plain("A", "bc"), head+"b===", "", "", "c")
		one(t, plain("A", "b"), head+"b=", "=", "=", "=", "")
		one(t, plain("A", "bEND:VCARD"), head+"b=", "END:VCARD")
		one(t, plain("A", "bBEGIN:VCARD"), head+"b=", "BEGIN:VCARD")
		one(t, plain("A", "bFN:c"), head+"b=", "FN:c")
		one(t, plain("A", "b;c:="), head+"b=", ";c:=3D")
		one(t, plain("A", "b="), head+"b=", "=3D")
		one(t, plain("A", "b="), head+"b=3=", "D")
		one(t, plain("A", "b c\td"), head+"b=", "=20c", "\td")
		one(t, plain("A", "b "), head+"b=", "", " ")
		one(t, plain("A", "b \tc"), head+"b=", "", " ", "\tc")
		// a line that goes on is put behind ahead of all
		bad(t, api.ErrField, head+"b=", " c")
		// the line at which the property begins is told, whatever it goes on with
		bad(t, api.ErrField, head+"b=", "c=", "=ZZ")
		bad(t, api.ErrField, head+"b=", "\xff")
		bad(t, api.ErrField, head+"b=", "\x00")
		bad(t, api.ErrField, head+"b=", "c\rd")
		bad(t, api.ErrField, head+"b==", "g")
		bad(t, api.ErrShort, head+"b==", "c")
		bad(t, api.ErrField, head+"=ZZ=", "c")
		bad(t, api.ErrLong, head+strings.Repeat("v", 300)+"=", strings.Repeat("w", 301))
		one(t, plain("A", strings.Repeat("v", 600)), head+strings.Repeat("v", 300)+"=", strings.Repeat("v", 300))
		one(t, plain("A", strings.Repeat("v", 30)), slices.Concat([]string{head + "v="}, slices.Repeat([]string{"v="}, 28), []string{"v"})...)
		stops(t, text("BEGIN:VCARD", "VERSION:2.1", head+"b=", "=ZZ", "A", "END:VCARD"), 3, api.ErrField)
		stops(t, text("BEGIN:VCARD", "VERSION:2.1", head+"b=", "c", "A", "END:VCARD"), 5, api.ErrShort)
		stops(t, text("BEGIN:VCARD", "VERSION:2.1", "", head+"b=", "", "A", "END:VCARD"), 6, api.ErrShort)
		// the last line
		for _, ahead := range [][]string{{head + "="}, {head + "b="}, {head + "b=", "c="}, {head + "b=", "="}, {head + "b==", ""}, {head + "=ZZ="}, {head + "\xff="}, {head + strings.Repeat("v", 700) + "="}} {
			stops(t, text(append([]string{"BEGIN:VCARD", "VERSION:2.1"}, ahead...)...), 0, api.ErrShort)
			stops(t, strings.TrimSuffix(text(append([]string{"BEGIN:VCARD", "VERSION:2.1"}, ahead...)...), "\r\n"), 0, api.ErrShort)
			stops(t, text(append([]string{"BEGIN:VCARD", "VERSION:2.1", "AGENT:", "BEGIN:VCARD", "VERSION:2.1"}, ahead...)...), 0, api.ErrShort)
		}
		// the card's last line is the value's
		stops(t, cardText(head+"b="), 0, api.ErrShort)
	}
	// only what is quoted-printable goes on
	for _, head := range []string{"A:", "A;8BIT:", "A;ENCODING=7BIT:", "A;8BIT;QUOTED-PRINTABLE:"} {
		one(t, plain("A", "b="), head+"b=")
		stops(t, cardText(head+"b=", "c"), 4, api.ErrShort)
	}
	bad(t, api.ErrKind, "A;ENCODING=X:b=", "c")
	bad(t, api.ErrField, "A;QUOTED-PRINTABLE:\x00=", "c")
	// names and parameters are asked for behind it all
	bad(t, api.ErrName, "END;QUOTED-PRINTABLE:VCARD=", "")
	bad(t, api.ErrKind, "AGENT;QUOTED-PRINTABLE:=", "v")
	one(t, agent(plain("FN", "a")), "AGENT;QUOTED-PRINTABLE:=", "", "BEGIN:VCARD", "VERSION:2.1", "FN:a", "END:VCARD")
}

// 10.2: charsets.
func TestParseCharsets(t *testing.T) {
	for name, values := range map[string]map[string]string{
		"UTF-8":      {"": "", "b": "b", "\xc3\xa9": "é", "é😀": "é😀", "\x01\x7f": "\x01\x7f"},
		"US-ASCII":   {"": "", "b": "b", "\x01\x7f": "\x01\x7f"},
		"ISO-8859-1": {"": "", "b": "b", "\xe9": "é", "\xc3\xa9": "Ã©", "\x80\xff": "\u0080ÿ", "\x01\x7f": "\x01\x7f"},
	} {
		for bytes, want := range values {
			for _, written := range []string{name, strings.ToLower(name), name[:1] + strings.ToLower(name[1:])} {
				one(t, plain("A", want), "A;CHARSET="+written+":"+bytes)
				one(t, plain("A", want), "A;charset="+written+";8BIT:"+bytes)
				one(t, plain("A", want), "A;ENCODING=QUOTED-PRINTABLE;CHARSET="+written+":"+quotedWords(bytes))
				one(t, plain("A", want), "A;CHARSET="+written+";base64:"+sixbit.Encode(bytes))
				one(t, api.Prop{Name: "A", Params: params("X", "y", "", "Z"), Value: want}, "A;X=y;CHARSET="+written+";CHARSET=x;Z:"+bytes)
			}
		}
	}
	for name, values := range map[string][]string{"UTF-8": {"\xe9", "b\xff", "\xc3", "\xed\xa0\x80", "\xc0\x80"}, "US-ASCII": {"\x80", "é", "b\xff"}} {
		for _, bytes := range values {
			bad(t, api.ErrCharset, "A;CHARSET="+name+":"+bytes)
			bad(t, api.ErrCharset, "A;BASE64;CHARSET="+name+":"+sixbit.Encode(bytes))
			bad(t, api.ErrCharset, "A;CHARSET="+name+";QUOTED-PRINTABLE:"+quotedWords(bytes))
			bad(t, api.ErrCharset, "A;CHARSET="+name+";CHARSET=ISO-8859-1:"+bytes)
			bad(t, api.ErrCharset, "END;CHARSET="+name+";a;b;c;d;e:"+strings.Repeat("v", 601)+bytes)
		}
	}
	for _, name := range []string{"X", "UTF8", "UTF-16", "UTF-8X", "ASCII", "LATIN1", "ISO-8859-15", "US-ASCI", "-"} {
		bad(t, api.ErrName, "A;CHARSET="+name+":")
		bad(t, api.ErrName, "A;charset="+strings.ToLower(name)+":b")
		bad(t, api.ErrName, "A;CHARSET="+name+";CHARSET=UTF-8:b")
		bad(t, api.ErrName, "A;BASE64;CHARSET="+name+":YQ==")
		bad(t, api.ErrName, "A;CHARSET="+name+";a;b;c;d;e:"+strings.Repeat("v", 601))
		bad(t, api.ErrField, "A;QUOTED-PRINTABLE;CHARSET="+name+":=ZZ")
		bad(t, api.ErrShort, "A;CHARSET="+name+";BASE64:YQ")
		bad(t, api.ErrKind, "A;CHARSET="+name+";ENCODING=X:YQ")
		one(t, plain("A", "é"), "A;CHARSET=ISO-8859-1;CHARSET="+name+":\xe9")
		one(t, api.Prop{Name: "A", Params: params("", upper(name)), Value: "\xe9"}, "A;"+name+":\xe9")
	}
	one(t, plain("A", "é"), "A;CHARSET=ISO-8859-1;CHARSET=US-ASCII;CHARSET=UTF-8:\xe9")
	one(t, plain("A", "\xe9"), "A:\xe9")
	one(t, api.Prop{Name: "A", Params: params("X-CHARSET", "x", "", "UTF-8"), Value: "\xe9"}, "A;X-CHARSET=x;utf-8:\xe9")
}

// 10.2: a value's length, as it is read.
func TestParseLong(t *testing.T) {
	for _, size := range []int{599, 600, 601, 900} {
		value := strings.Repeat("v", size)
		for _, line := range []string{"A:" + value, "A;QUOTED-PRINTABLE:" + value, "A;QUOTED-PRINTABLE:" + value[:size/2] + strings.Repeat("=76", size-size/2), "A;BASE64:" + sixbit.Encode(value), "A;CHARSET=ISO-8859-1:" + value, "A;CHARSET=UTF-8;BASE64:" + sixbit.Encode(value)} {
			if size <= mostValue {
				one(t, plain("A", value), line)
			} else {
				bad(t, api.ErrLong, line)
				bad(t, api.ErrLong, strings.Replace(line, "A", "G.AGENT", 1))
			}
		}
	}
	one(t, plain("A", strings.Repeat("é", 300)), "A;CHARSET=ISO-8859-1:"+strings.Repeat("\xe9", 300))
	bad(t, api.ErrLong, "A;CHARSET=ISO-8859-1:"+strings.Repeat("\xe9", 301))
	bad(t, api.ErrLong, "END;a;b;c;d;e:"+strings.Repeat("v", 601))
	bad(t, api.ErrLong, "AGENT:"+strings.Repeat("v", 601))
	bad(t, api.ErrLong, "A:"+strings.Repeat(" ", 601))
}

// 10.2: parameters that go, and how many are left.
func TestParseParams(t *testing.T) {
	four := params("", "A", "B", "c", "", "D", "E", "f")
	for _, list := range []string{";a;B=c;d;E=f", ";8BIT;a;B=c;d;E=f", ";a;B=c;7bit;d;E=f", ";a;B=c;d;E=f;ENCODING=8BIT", ";a;CHARSET=UTF-8;B=c;d;E=f;8bit", ";BASE64;a;B=c;QUOTED-PRINTABLE;d;E=f", ";CHARSET=UTF-8;CHARSET=X;a;B=c;d;E=f", ";ENCODING=8BIT;ENCODING=X;a;B=c;d;E=f"} {
		one(t, api.Prop{Name: "A", Params: four}, "A"+list+":")
		bad(t, api.ErrName, "VERSION"+list+":")
		one(t, api.Prop{Group: "G", Name: "AGENT", Params: four, Agent: []api.Card{{}}}, "g.agent"+list+":", "BEGIN:VCARD", "VERSION:2.1", "END:VCARD")
	}
	one(t, plain("A", "b"), "A;8BIT;7BIT;ENCODING=X;CHARSET=UTF-8;CHARSET=X;BASE64:b")
	for _, list := range []string{";a;B=c;d;E=f;g", ";a;B=c;d;E=f;g;h", ";a;B=c;d;E=f;g;8BIT", ";CHARSET=UTF-8;a;B=c;d;E=f;g", ";a;a;a;a;a", ";a;a;ENCODING=8BIT;a;a;a", ";a;b;c;d;TYPE=8BIT", ";a;b;c;d;b"} {
		bad(t, api.ErrFull, "A"+list+":v")
		bad(t, api.ErrFull, "END"+list+":v")
		bad(t, api.ErrFull, "AGENT"+list+":v")
		bad(t, api.ErrFull, "AGENT"+list+":", "BEGIN:VCARD", "VERSION:2.1", "END:VCARD")
	}
}

// 10.2: AGENT with a value, and cards within one another.
func TestParseAgents(t *testing.T) {
	for _, line := range []string{"AGENT:v", "AGENT: ", "agent;x:v", "G.AGENT:\t", "AGENT;QUOTED-PRINTABLE:=00", "AGENT;BASE64:YQ==", "AGENT;CHARSET=UTF-8:é"} {
		bad(t, api.ErrKind, line)
		bad(t, api.ErrKind, line, "BEGIN:VCARD", "VERSION:2.1", "END:VCARD")
	}
	bad(t, api.ErrKind, "AGENT:", " ", "BEGIN:VCARD", "VERSION:2.1", "END:VCARD")
	for _, line := range []string{"AGENT:", "AGENT;QUOTED-PRINTABLE:", "AGENT;BASE64: ", "AGENT;ENCODING=b;CHARSET=UTF-8:", "AGENT;8BIT;CHARSET=US-ASCII:"} {
		one(t, agent(), line, "BEGIN:VCARD", "VERSION:2.1", "END:VCARD")
		one(t, agent(plain("A", "b")), line, "", "BEGIN:VCARD", "", "VERSION:2.1", "A:b", "END:VCARD", "")
	}
	begin, end := []string{"A:", "AGENT:", "BEGIN:VCARD", "VERSION:2.1"}, []string{"END:VCARD", "B:"}
	want := card(plain("C", "d"))
	for count := range 8 {
		l := slices.Concat(slices.Repeat(begin, count), []string{"C:d"}, slices.Repeat(end, count))
		if count <= 2 {
			read(t, cardText(l...), want)
		} else {
			stops(t, cardText(l...), 12, api.ErrDeep)
			stops(t, cardText(append([]string{"X:", ""}, l...)...), 14, api.ErrDeep)
		}
		want = card(plain("A", ""), agent(want.Props...), plain("B", ""))
	}
	third := text("BEGIN:VCARD", "VERSION:2.1", "AGENT:", "BEGIN:VCARD", "VERSION:2.1", "AGENT:", "BEGIN:VCARD", "VERSION:2.1")
	for _, behind := range []string{"", "\n", "X", "\x00", text("BEGIN:VCARD", "VERSION:2.1", "END:VCARD", "END:VCARD", "END:VCARD", "END:VCARD")} {
		stops(t, third+"AGENT:\r\n"+behind, 9, api.ErrDeep)
		stops(t, third+"AGENT:v\r\n"+behind, 9, api.ErrKind)
		stops(t, third+"AGENT;a;b;c;d;e:\r\n"+behind, 9, api.ErrFull)
	}
	stops(t, third+"AGENT:", 9, api.ErrDeep)
	// two Agents within one another, one behind the other
	read(t, third+text("END:VCARD", "AGENT:", "BEGIN:VCARD", "VERSION:2.1", "END:VCARD", "END:VCARD", "AGENT:", "BEGIN:VCARD", "VERSION:2.1", "AGENT:", "BEGIN:VCARD", "VERSION:2.1", "END:VCARD", "END:VCARD", "END:VCARD"),
		card(agent(agent(), agent()), agent(agent())))
	stops(t, third+text("END:VCARD", "AGENT:", "BEGIN:VCARD", "VERSION:2.1", "AGENT:"), 13, api.ErrDeep)
}

// 10.2: a text's length.
func TestParseText(t *testing.T) {
	for size := 1000; size <= 4000; size += 500 {
		read(t, printWords(sized(size)), sized(size))
	}
	short, want := cardText("A:b"), card(plain("A", "b"))
	for _, size := range []int{3998, 3999, 4000} {
		read(t, short+strings.Repeat("\n", size-len(short)), want)
		read(t, strings.Repeat("\n", size-len(short))+short, want)
		read(t, short+"\n"+strings.Repeat(" ", size-len(short)-1), want)
		stops(t, strings.Repeat("\n", size), 0, api.ErrShort)
		stops(t, strings.Repeat("\x00", size), 1, api.ErrField)
		stops(t, strings.Repeat("\n", size-1)+"X", size, api.ErrField)
		stops(t, short+strings.Repeat("\n", size-len(short)-1)+"X", size-len(short)+4, api.ErrMore)
	}
	for _, size := range []int{4001, 4002, 8000, 1 << 20} {
		stops(t, short+strings.Repeat("\n", size-len(short)), 0, api.ErrLong)
		stops(t, strings.Repeat("\x00", size), 0, api.ErrLong)
		stops(t, "X"+strings.Repeat("\n", size-1), 0, api.ErrLong)
		stops(t, "X"+printWords(sized(size-1)), 0, api.ErrLong)
	}
	stops(t, printWords(sized(4001)), 0, api.ErrLong)
	// what is read may be, but that its text is too long
	long := card()
	l := []string{}
	for range 6 {
		long.Props = append(long.Props, plain("A", strings.Repeat("\xff", 360)))
		l = append(l, "A:"+strings.Repeat("\xff", 360))
	}
	l = append(l, "A:\xff")
	long.Props = append(long.Props, plain("A", "\xff"))
	read(t, cardText(l...), long)
	for range 6 {
		long.Props = append(long.Props, plain("B", strings.Repeat("\xfe", 250)))
		l = append(l, "B:"+strings.Repeat("\xfe", 250))
	}
	read(t, cardText(l...), long)
	wrong(t, long, api.ErrLong)
}

// 10.2: each pair of what may be wrong with a line, in one line and in two.
func TestParsePairs(t *testing.T) {
	names := []string{"A", "g.a", "AGENT", "END", "version", "BEGIN", "1"}
	lists := []string{"", ";X", ";a;b;c;d", ";a;b;c;d;e", ";a;b;c;d;e;f;g", ";a;;b"}
	hows := []string{"", ";8bit", ";QUOTED-PRINTABLE", ";ENCODING=quoted-printable", ";ENCODING=b", ";BASE64", ";ENCODING=X", ";BASE64;ENCODING=X", ";ENCODING=X;BASE64"}
	sets := []string{"", ";CHARSET=UTF-8", ";CHARSET=ISO-8859-1", ";CHARSET=X", ";CHARSET=us-ascii;CHARSET=X"}
	values := []string{"", "v", "v=", "=E9", "=", "=4", " 6Q==", "YQ", "YQ==YQ==", "=C3=A9", "\xe9", "\x00", strings.Repeat("v", 601), strings.Repeat("VVVV", 201), strings.Repeat("v", 2401)}
	behinds := [][]string{{}, {"w"}, {"=E9"}, {"BEGIN:VCARD", "VERSION:2.1", "END:VCARD"}, {"", "=", "\xff"}}
	count := map[api.Errno]int{}
	for _, name := range names {
		for _, list := range lists {
			for _, how := range hows {
				for _, set := range sets {
					for _, value := range values {
						line := name + list + how + set + ":" + value
						for _, behind := range behinds {
							count[parsedWords(t, cardText(append([]string{line}, behind...)...))]++
						}
						parsedWords(t, cardText("A:", name+set+how+list+":"+value, "B;ENCODING=X:"))
						parsedWords(t, cardText("AGENT:", "BEGIN:VCARD", "VERSION:2.1", "A:", line, "END:VCARD"))
						parsedWords(t, "BEGIN:VCARD\nVERSION:2.1\n"+line)
					}
				}
			}
		}
	}
	for _, e := range []api.Errno{api.OK, api.ErrShort, api.ErrField, api.ErrFull, api.ErrKind, api.ErrMore, api.ErrLong, api.ErrName, api.ErrCharset} {
		if count[e] < 30 {
			t.Errorf("%d texts with %v", count[e], e)
		}
	}
	broken := []string{"A", ":", "A;:", "A;ENCODING=X:", "A;BASE64:=", "A;BASE64:YQ", "A;BASE64:YQ==YQ==", "A;QUOTED-PRINTABLE:\xff", "A;CHARSET=X:", "A;CHARSET=UTF-8:\xff", "A:" + strings.Repeat("v", 601), "A;a;b;c;d;e:", "END:", "AGENT:v", "AGENT:", "BEGIN:VCARD", "A;QUOTED-PRINTABLE:=", "END:VCARD"}
	for _, a := range broken {
		for _, b := range broken {
			for _, c := range broken {
				parsedWords(t, cardText(a, b, c))
			}
			parsedWords(t, cardText(append(slices.Repeat([]string{"A:"}, mostProps-1), a, b)...))
			parsedWords(t, text(a, b))
			parsedWords(t, text("BEGIN:VCARD", a, b))
			parsedWords(t, cardText()+text(a, b))
		}
	}
}

// 10.2: each text cut off at every place, each byte of it turned, and each byte put in anywhere.
func TestParseEachByte(t *testing.T) {
	texts := []string{
		cardText("FN:a"),
		"begin:vcard\nversion:2.1\nA;X=y;QUOTED-PRINTABLE:b=3D=\nc\n\nend:vcard",
		cardText("G.A;CHARSET=ISO-8859-1;ENCODING=B:", " 6Q==", "", "AGENT:", "BEGIN:VCARD", "VERSION:2.1", "B:", "END:VCARD"),
	}
	some := strings.Split("\x00\t\n\r =:;.AaEzZ0~\x7f\x80\xc3\xff", "")
	for i, s := range texts {
		for at := range len(s) + 1 {
			parsedWords(t, s[:at])
			parsedWords(t, s[at:])
			bytes := sample.Bytes()
			if i > 0 {
				bytes = some
			}
			for _, b := range bytes {
				parsedWords(t, s[:at]+b+s[at:])
				parsedWords(t, s[:at]+b+s[min(at+1, len(s)):])
			}
		}
	}
	for i, c := range mixedCards(400) {
		s, e := vcard.Print(c)
		if e != api.OK || i%9 > 0 || len(s) > 700 {
			continue
		}
		for at := range len(s) {
			parsedWords(t, s[:at])
			for _, b := range []byte{0, '\n', '\r', ' ', '=', s[at] ^ 1, s[at] ^ 32, s[at] ^ 128} {
				parsedWords(t, s[:at]+string([]byte{b})+s[at+1:])
			}
		}
	}
}

// 10.2: many texts.
func TestParseMany(t *testing.T) {
	pieces := []string{"BEGIN:VCARD\r\n", "VERSION:2.1\n", "END:VCARD\r\n", "AGENT:\n", "BEGIN:VCARD\nVERSION:2.1\n", "FN:a\r\n", "g.TEL;x;y=z:1\n", "\n", " \n", "\tb\n", "A;QUOTED-PRINTABLE:b=\n", "A;encoding=quoted-printable:=3D=\r\n", "A;BASE64: 6Q==\r\n", "A;CHARSET=ISO-8859-1:\xe9\n", "X=", "=\n", "\x00", "\xff"}
	right := []string{"FN:a\r\n", "g.TEL;x;y=z:1\n", "\n", "\n \n", "A;QUOTED-PRINTABLE:b=\nc\n", "A;encoding=quoted-printable:=3D=\r\n\r\n", "A;BASE64: 6Q==\r\n", "A;CHARSET=ISO-8859-1:\xe9\n", "AGENT:\nBEGIN:VCARD\nVERSION:2.1\n", "AGENT:\nBEGIN:VCARD\nVERSION:2.1\nEND:VCARD\n", "END:VCARD\n", "B:  \n"}
	count := map[api.Errno]int{}
	for _, s := range sample.Mixed(20000, 12, pieces) {
		count[parsedWords(t, s)]++
		count[parsedWords(t, "BEGIN:VCARD\nVERSION:2.1\n"+s+"END:VCARD\n")]++
	}
	for _, s := range sample.Mixed(30000, 14, right) {
		missing := strings.Count(s, "BEGIN:") - strings.Count(s, "END:")
		s = "BEGIN:VCARD\nVERSION:2.1\n" + s + strings.Repeat("END:VCARD\n", max(missing+1, 0))
		count[parsedWords(t, s)]++
	}
	for _, s := range append(sample.Mixed(3000, 60, sample.Bytes()), sample.Texts("a:\n =", 5)...) {
		count[parsedWords(t, s)]++
		count[parsedWords(t, "BEGIN:VCARD\nVERSION:2.1\n"+s)]++
	}
	for _, e := range []api.Errno{api.OK, api.ErrShort, api.ErrField, api.ErrKind, api.ErrMore, api.ErrName, api.ErrDeep} {
		if count[e] < 30 {
			t.Errorf("%d texts with %v", count[e], e)
		}
	}
	if count[api.OK] < 4000 {
		t.Errorf("%d texts are right", count[api.OK])
	}
}

// 10.3: what is read, and may be, is printed and read again.
func TestParsePrint(t *testing.T) {
	for _, c := range mixedCards(600) {
		s, e := vcard.Print(c)
		if e != api.OK {
			continue
		}
		// as it is written elsewhere: other ends of lines, other ways
		for _, other := range []string{strings.ReplaceAll(s, "\r\n", "\n"), strings.ReplaceAll(s, "\r\n", "\n\n"), strings.ReplaceAll(s, ";ENCODING=", ";encoding="), strings.ReplaceAll(s, ";ENCODING=", ";"), strings.ReplaceAll(s, "ENCODING=BASE64", "ENCODING=b")} {
			// A line that goes on does so no more behind an empty one.
			if len(other) > mostText || strings.Contains(other, "\n\n ") || strings.Contains(other, "\n\n\t") {
				continue
			}
			back, at, e := vcard.Parse(other)
			if e != api.OK || !vcard.Same(back, c) {
				t.Errorf("Parse(%q): %q, %d and %v, not %q", other, back, at, e, c)
			}
			if again, e := vcard.Print(back); e != api.OK || again != s {
				t.Errorf("Print of Parse(%q): %q and %v, not %q", other, again, e, s)
			}
		}
	}
}

// spoil sets something else into all that a card's lists have, and behind it.
func spoil(c api.Card) {
	for i, p := range c.Props {
		for j := range p.Params {
			p.Params[j] = api.Param{Name: "SPOILT"}
		}
		_ = append(p.Params, api.Param{Name: "BEHIND"})
		for j, within := range p.Agent {
			spoil(within)
			p.Agent[j] = api.Card{}
		}
		_ = append(p.Agent, api.Card{})
		c.Props[i] = api.Prop{Name: "SPOILT"}
	}
	_ = append(c.Props, api.Prop{Name: "BEHIND"})
}

// roomy is a card whose lists have room behind them.
func roomy(levels int) api.Card {
	list := append(make([]api.Param, 0, 8), params("A", "b", "", "C")...)
	c := api.Card{Props: append(make([]api.Prop, 0, 8), api.Prop{Name: "N", Params: list, Value: "é"}, api.Prop{Name: "M", Params: list, Value: "\xff"}, api.Prop{Name: "K", Params: list, Value: "k"})}
	if levels > 1 {
		c.Props = append(c.Props, api.Prop{Name: "AGENT", Params: list, Agent: append(make([]api.Card, 0, 4), roomy(levels-1))})
	}
	return c
}

// What is handed in stays as it is, behind the lists' ends, too.
func TestListsStay(t *testing.T) {
	for levels := 1; levels <= 3; levels++ {
		c, wanted := roomy(levels), roomy(levels)
		right(t, c)
		deep(t, "a card with room", c, levels)
		same(t, c, wanted, true)
		for _, p := range c.Props {
			behind := p.Params[len(p.Params):cap(p.Params)]
			if slices.ContainsFunc(behind, func(q api.Param) bool { return q != api.Param{} }) {
				t.Errorf("behind the parameters: %q", behind)
			}
		}
		if behind := c.Props[len(c.Props):cap(c.Props)]; slices.ContainsFunc(behind, func(p api.Prop) bool { return p.Name != "" }) {
			t.Errorf("behind the properties: %q", behind)
		}
		if !alike(c, wanted) {
			t.Errorf("%q is spoilt", c)
		}
	}
}

// What is handed out is nobody else's, and no two lists of it are one.
func TestListsOfTheirOwn(t *testing.T) {
	s := cardText("A;x;y=z;8BIT:b", "AGENT;x:", "BEGIN:VCARD", "VERSION:2.1", "B;x;y;BASE64:", "AGENT:", "BEGIN:VCARD", "VERSION:2.1", "C;x:", "END:VCARD", "D;x:", "END:VCARD", "AGENT;x:", "BEGIN:VCARD", "VERSION:2.1", "E;x;CHARSET=UTF-8:", "END:VCARD", "F;x:")
	want, _, _ := parseWords(s)
	c, _, e := vcard.Parse(s)
	other, _, _ := vcard.Parse(s)
	if e != api.OK {
		t.Fatalf("%v", e)
	}
	spoil(c)
	if !alike(other, want) {
		t.Errorf("another card is spoilt: %q", other)
	}
	read(t, s, want)
	// each list by itself is spoilt, and put behind: all others stay
	for _, path := range [][]int{{}, {1}, {1, 1}, {2}} {
		got, _, _ := vcard.Parse(s)
		wanted := copyOf(want)
		a, b := &got, &wanted
		for _, at := range path {
			a, b = &a.Props[at].Agent[0], &b.Props[at].Agent[0]
		}
		for i := range a.Props {
			for _, l := range [][]api.Param{a.Props[i].Params, b.Props[i].Params} {
				for j := range l {
					l[j].Value += "!"
				}
			}
			_ = append(a.Props[i].Params, params("BEHIND", "b", "BEHIND", "c", "BEHIND", "d")...)
			_ = append(a.Props[i].Agent, card(plain("BEHIND", "")))
			a.Props[i].Value += "!"
			b.Props[i].Value += "!"
		}
		_ = append(a.Props, plain("BEHIND", ""), plain("BEHIND", ""), plain("BEHIND", ""))
		if !alike(got, wanted) {
			t.Errorf("lists are shared: %q, not %q", got, wanted)
		}
	}
}

// P1: calls end, and none panics, at lists and texts that are far too long.
func TestCallsEnd(t *testing.T) {
	const many = 1 << 16
	for _, b := range strings.Split("\x00\n\r -.09:;=AZaz~\x7f\x80\xc3\xff", "") {
		s := strings.Repeat(b, many)
		stops(t, s, 0, api.ErrLong)
		parsedWords(t, s[:4000])
		parsedWords(t, "BEGIN:VCARD\nVERSION:2.1\n"+s[:3900])
		for _, p := range []api.Prop{{Group: s, Name: "A"}, {Name: s}, {Name: "A", Params: params(s, "a")}, {Name: "A", Params: params("", s)}, plain("A", s), plain("AGENT", s)} {
			checked(t, card(p))
			deep(t, "a card with a long text", card(p), 1)
			same(t, card(p), card(p), true)
			same(t, card(p), card(p, p), false)
		}
	}
	wrong(t, card(api.Prop{Name: "A", Params: times(many, "x", "")}), api.ErrFull)
	wrong(t, card(api.Prop{Name: "A", Agent: make([]api.Card, many)}), api.ErrKind)
	wrong(t, filled(many), api.ErrFull)
	same(t, filled(many), filled(many), true)
	same(t, filled(many), filled(many+1), false)
}
