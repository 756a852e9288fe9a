package vcard_test

import (
	"encoding/base64"
	"fmt"
	"regexp"
	"slices"
	"strings"
	"testing"
	"unicode/utf8"

	"cardcase/api"
	"cardcase/sample"
	"cardcase/vcard"
)

// quotedWords is a right text as quoted-printable.
func quotedWords(value string) string {
	var out strings.Builder
	for i := range len(value) {
		b := value[i]
		blank := (b == ' ' || b == '\t') && i+1 < len(value)
		if blank || b > ' ' && b < 127 && b != '=' {
			out.WriteByte(b)
		} else {
			fmt.Fprintf(&out, "=%02X", b)
		}
	}
	return out.String()
}

var (
	// notPlain is what makes a value none that is written as it is.
	notPlain = regexp.MustCompile(`[^ -~]`)
	// pieces are up to 60 letters in a row.
	pieces = regexp.MustCompile(`.{1,60}`)
)

// writtenWords is a value as it is written, with the parameters that say so ahead, said once more.
func writtenWords(value string) string {
	if !notPlain.MatchString(value) {
		return ":" + value
	}
	if utf8.ValidString(value) {
		return ";CHARSET=UTF-8;ENCODING=QUOTED-PRINTABLE:" + quotedWords(value)
	}
	return ";ENCODING=BASE64:" + pieces.ReplaceAllString(base64.StdEncoding.EncodeToString([]byte(value)), " $0")
}

// foldWords is a line, folded: as many bytes as there is room for, up to a blank.
func foldWords(line string) string {
	out := ""
	for len(line) > 75 {
		at := strings.LastIndexAny(line[:76], " \t")
		if at <= 0 {
			break
		}
		out, line = out+line[:at]+"\r\n", line[at:]
	}
	return out + line + "\r\n"
}

// printWords is the text of a card with which nothing is wrong, said once more.
func printWords(c api.Card) string {
	text := "BEGIN:VCARD\r\nVERSION:2.1\r\n"
	for _, p := range c.Props {
		line := strings.TrimPrefix(p.Group+"."+p.Name, ".")
		for _, q := range p.Params {
			line += ";" + strings.TrimPrefix(q.Name+"="+q.Value, "=")
		}
		text += foldWords(line + writtenWords(p.Value))
		for _, within := range p.Agent {
			text += printWords(within)
		}
	}
	return text + "END:VCARD\r\n"
}

// printed holds Check and Print against what they must answer of a card that is right, and Parse of that text (10.3).
func printed(t *testing.T, c api.Card, want string) {
	t.Helper()
	if e := vcard.Check(c); e != api.OK {
		t.Errorf("Check(%.300q): %v", c, e)
	}
	if s, e := vcard.Print(c); e != api.OK || s != want {
		t.Errorf("Print(%.300q): %q and %v, not %q", c, s, e, want)
	}
	if back, at, e := vcard.Parse(want); e != api.OK || at != 0 || !alike(back, c) || !vcard.Same(back, c) {
		t.Errorf("Parse(%q): %.300q, %d and %v, not %.300q", want, back, at, e, c)
	}
}

// text is lines as a text.
func text(l ...string) string {
	out := ""
	for _, line := range l {
		out += line + "\r\n"
	}
	return out
}

// cardText is the text of a card with these lines between the first two and the last one.
func cardText(l ...string) string {
	return text(slices.Concat([]string{"BEGIN:VCARD", "VERSION:2.1"}, l, []string{"END:VCARD"})...)
}

// 10.1: cards that are right, and their texts.
func TestPrint(t *testing.T) {
	for _, one := range []struct {
		c     api.Card
		lines []string
	}{
		{card(), nil},
		{api.Card{Props: []api.Prop{}}, nil},
		{card(plain("FN", "a")), []string{"FN:a"}},
		{card(plain("FN", "")), []string{"FN:"}},
		{card(plain("FN", " ")), []string{"FN: "}},
		{card(plain("FN", "=")), []string{"FN:="}},
		{card(plain("FN", "a="), plain("N", "=3D")), []string{"FN:a=", "N:=3D"}},
		{card(plain("FN", "a;b:c=d,e\\")), []string{"FN:a;b:c=d,e\\"}},
		{card(plain("FN", "END:VCARD")), []string{"FN:END:VCARD"}},
		{card(api.Prop{Group: "HOME", Name: "TEL", Params: params("TYPE", "work", "", "VOICE"), Value: "12"}), []string{"HOME.TEL;TYPE=work;VOICE:12"}},
		{card(plain("A", "1"), plain("B", "2"), plain("A", "1")), []string{"A:1", "B:2", "A:1"}},
		// what is no plain text, but a right one
		{card(plain("FN", "é")), []string{"FN;CHARSET=UTF-8;ENCODING=QUOTED-PRINTABLE:=C3=A9"}},
		{card(plain("FN", "a=b é ")), []string{"FN;CHARSET=UTF-8;ENCODING=QUOTED-PRINTABLE:a=3Db =C3=A9=20"}},
		{card(plain("FN", "\n")), []string{"FN;CHARSET=UTF-8;ENCODING=QUOTED-PRINTABLE:=0A"}},
		{card(plain("FN", "a\r\nb")), []string{"FN;CHARSET=UTF-8;ENCODING=QUOTED-PRINTABLE:a=0D=0Ab"}},
		{card(plain("FN", "a\tb\t")), []string{"FN;CHARSET=UTF-8;ENCODING=QUOTED-PRINTABLE:a\tb=09"}},
		{card(plain("FN", "\x00")), []string{"FN;CHARSET=UTF-8;ENCODING=QUOTED-PRINTABLE:=00"}},
		{card(plain("FN", "ÿĀ\U0010ffff")), []string{"FN;CHARSET=UTF-8;ENCODING=QUOTED-PRINTABLE:=C3=BF=C4=80=F4=8F=BF=BF"}},
		{card(api.Prop{Group: "G", Name: "N", Params: params("", "X", "LANGUAGE", "de", "", "Y", "", "Z"), Value: "ü"}), []string{"G.N;X;LANGUAGE=de;Y;Z;CHARSET=UTF-8;ENCODING=QUOTED-PRINTABLE:=C3=BC"}},
		// what is no right text
		{card(plain("FN", "\xe9")), []string{"FN;ENCODING=BASE64: 6Q=="}},
		{card(plain("FN", "a\xe9")), []string{"FN;ENCODING=BASE64: Yek="}},
		{card(plain("FN", "\xff\xff\xff")), []string{"FN;ENCODING=BASE64: ////"}},
		{card(plain("FN", "\xc3")), []string{"FN;ENCODING=BASE64: ww=="}},
		{card(plain("FN", "\xed\xa0\x80")), []string{"FN;ENCODING=BASE64: 7aCA"}},
		{card(plain("FN", "\xc0\x80")), []string{"FN;ENCODING=BASE64: wIA="}},
		{card(plain("FN", "\xf4\x90\x80\x80")), []string{"FN;ENCODING=BASE64: 9JCAgA=="}},
		{card(api.Prop{Group: "G", Name: "N", Params: params("", "X", "TYPE", "jpeg", "", "Y", "", "Z"), Value: "\xff"}), []string{"G.N;X;TYPE=jpeg;Y;Z;ENCODING=BASE64: /w=="}},
		// Agents
		{card(agent()), []string{"AGENT:", "BEGIN:VCARD", "VERSION:2.1", "END:VCARD"}},
		{card(plain("A", "1"), agent(plain("B", "2")), plain("C", "3")), []string{"A:1", "AGENT:", "BEGIN:VCARD", "VERSION:2.1", "B:2", "END:VCARD", "C:3"}},
		{card(api.Prop{Group: "HOME", Name: "AGENT", Params: params("TYPE", "work", "", "X"), Agent: []api.Card{card(plain("FN", "é"))}}), []string{"HOME.AGENT;TYPE=work;X:", "BEGIN:VCARD", "VERSION:2.1", "FN;CHARSET=UTF-8;ENCODING=QUOTED-PRINTABLE:=C3=A9", "END:VCARD"}},
		{card(agent(plain("A", "1"), agent(plain("B", "\xff"))), agent()), []string{"AGENT:", "BEGIN:VCARD", "VERSION:2.1", "A:1", "AGENT:", "BEGIN:VCARD", "VERSION:2.1", "B;ENCODING=BASE64: /w==", "END:VCARD", "END:VCARD", "AGENT:", "BEGIN:VCARD", "VERSION:2.1", "END:VCARD"}},
	} {
		printed(t, one.c, cardText(one.lines...))
	}
}

// 10.1: how a value is written, byte by byte.
func TestPrintBytes(t *testing.T) {
	ways := map[string]int{}
	for n, b := range sample.Bytes() {
		for _, value := range []string{b, "a" + b, b + "a", "a" + b + "c", b + b, strings.Repeat("a", 599) + b, b + strings.Repeat("a", 599), "é" + b, b + "é", "\xff" + b} {
			right(t, card(plain("A", value)))
		}
		s, _ := vcard.Print(card(plain("A", b)))
		how, _, _ := strings.Cut(strings.Split(s, "\r\n")[2], ":")
		ways[how]++
		want := "A;ENCODING=BASE64"
		switch {
		case n >= 32 && n <= 126:
			want = "A"
		case n < 128:
			want = "A;CHARSET=UTF-8;ENCODING=QUOTED-PRINTABLE"
		}
		if how != want {
			t.Errorf("the byte %d is written by %q", n, how)
		}
	}
	if ways["A"] != 95 || len(ways) != 3 {
		t.Errorf("%v", ways)
	}
	for _, value := range sample.Texts("a \t\x1f\x7f=é", 4) {
		right(t, card(plain("A", value)))
	}
	for _, value := range sample.Texts(strings.Join(sample.Bytes(), ""), 1) {
		right(t, card(agent(plain("A", value))))
	}
}

// 10.1: lines longer than 75, and what they are folded to.
func TestPrintFolds(t *testing.T) {
	words := strings.Repeat("word ", 30)
	for _, one := range []struct {
		p     api.Prop
		lines []string
	}{
		{plain("FN", strings.Repeat("v", 600)), []string{"FN:" + strings.Repeat("v", 600)}},
		{plain("FN", strings.Repeat("v", 72)+" w"), []string{"FN:" + strings.Repeat("v", 72), " w"}},
		{plain("FN", strings.Repeat("v", 71)+" w"), []string{"FN:" + strings.Repeat("v", 71), " w"}},
		{plain("FN", strings.Repeat("v", 70)+" w"), []string{"FN:" + strings.Repeat("v", 70) + " w"}},
		{plain("FN", strings.Repeat("v", 73)+" w"), []string{"FN:" + strings.Repeat("v", 73) + " w"}},
		{plain("FN", " "+strings.Repeat("v", 80)), []string{"FN:", " " + strings.Repeat("v", 80)}},
		{plain("FN", strings.Repeat(" ", 80)), []string{"FN:" + strings.Repeat(" ", 72), strings.Repeat(" ", 8)}},
		{plain("FN", strings.Repeat(" ", 72)), []string{"FN:" + strings.Repeat(" ", 72)}},
		{plain("FN", strings.Repeat(" ", 73)), []string{"FN:" + strings.Repeat(" ", 72), " "}},
		{plain("FN", words), []string{"FN:" + strings.Repeat("word ", 14)[:69], " " + strings.Repeat("word ", 15)[:74], " word "}},
		{plain("FN", "é"+words), []string{"FN;CHARSET=UTF-8;ENCODING=QUOTED-PRINTABLE:=C3=A9" + strings.Repeat("word ", 5)[:24], " " + strings.Repeat("word ", 15)[:74], " " + strings.Repeat("word ", 10)[:49] + "=20"}},
		{plain("FN", "é\t"+strings.Repeat("v", 70)), []string{"FN;CHARSET=UTF-8;ENCODING=QUOTED-PRINTABLE:=C3=A9", "\t" + strings.Repeat("v", 70)}},
		// pieces of 60 letters, each with a blank ahead: 45 bytes each
		{plain("P", strings.Repeat("\xff", 44)), []string{"P;ENCODING=BASE64:", " " + strings.Repeat("/", 58) + "8="}},
		{plain("P", strings.Repeat("\xff", 45)), []string{"P;ENCODING=BASE64:", " " + strings.Repeat("/", 60)}},
		{plain("P", strings.Repeat("\xff", 46)), []string{"P;ENCODING=BASE64:", " " + strings.Repeat("/", 60) + " /w=="}},
		{plain("P", strings.Repeat("\xff", 90)), []string{"P;ENCODING=BASE64:", " " + strings.Repeat("/", 60), " " + strings.Repeat("/", 60)}},
		{plain("P", strings.Repeat("\xff", 600)), append(append([]string{"P;ENCODING=BASE64:"}, slices.Repeat([]string{" " + strings.Repeat("/", 60)}, 13)...), " "+strings.Repeat("/", 20))},
		{api.Prop{Name: "P", Params: params("TYPE", strings.Repeat("t", 32), "X", strings.Repeat("u", 30)), Value: "a b"}, []string{"P;TYPE=" + strings.Repeat("t", 32) + ";X=" + strings.Repeat("u", 30) + ":a", " b"}},
		{api.Prop{Name: "P", Params: params("TYPE", strings.Repeat("t", 32), "X", strings.Repeat("u", 32)), Value: "a b"}, []string{"P;TYPE=" + strings.Repeat("t", 32) + ";X=" + strings.Repeat("u", 32) + ":a b"}},
	} {
		printed(t, card(one.p), cardText(one.lines...))
		printed(t, card(agent(one.p)), cardText(slices.Concat([]string{"AGENT:", "BEGIN:VCARD", "VERSION:2.1"}, one.lines, []string{"END:VCARD"})...))
	}
	for size := range mostValue + 1 {
		for _, piece := range []string{"v", "vw ", "\xff", " "} {
			right(t, card(plain("A", strings.Repeat(piece, size)[:size])))
		}
	}
}
