package contact_test

import (
	"fmt"
	"reflect"
	"slices"
	"strings"
	"testing"

	"cardcase/api"
	"cardcase/contact"
	"cardcase/sample"
	"cardcase/vcard"
)

var (
	// long is a text with a byte too many.
	long = strings.Repeat("v", mostText+1)
	// longest is one that has just as many as it may.
	longest = long[1:]

	rightLabels = []string{
		"", "G:", "A", "A;B", "A;B;C;D", "HOME;WORK", "G:HOME;WORK", "X=a", "X=a;X=b", "X=B;X=a", "G:X=a;X=b;Y", "0", "!", "~", "A-B;A=1", "A;A=A;AA", "1;2;3;A=4", "END:BEGIN;X=Agent",
		"ENCODING", "CHARSET", "B", "X=QUOTED-PRINTABLE", "X=8bit", "X-ENCODING=B", "ENCODINGS=B", "QUOTED-PRINTABLES", "8BITS", "G-1:A", "A,B", "A.B", "\"", "'", "<>",
		strings.Repeat("G", 32) + ":" + strings.Repeat("A", 32) + "=" + strings.Repeat("b", 32) + ";" + strings.Repeat("C", 32),
	}
	wrongLabels = []string{
		// a group that may not be
		"g:", "1:", "-:", "G H:", "G.H:", "G;A:", "G=A:", "\xc3\x89:", "\xff:A", "G\x00:A", " :A", " G:A", "G :A", "a:B", strings.Repeat("G", 33) + ":",
		// a : too many, or without a group
		":", ":A", "::", "G::", "G::A", "G:A:", "G:A:B", "A;B:", "A;B:C", "G:A;B:C",
		// a ; too many
		";", ";A", "A;", "A;;B", ";;", "G:;", "G:;A", "G:A;", "G:A;;B",
		// an = too many, or without a name
		"=", "=A", "A=", "A==", "A=B=C", "A==B", "G:=A", "G:A=", "A;=", "A;=B", "B;C=",
		// out of order, or twice
		"B;A", "G:B;A", "A;C;B", "B;A;C", "A;A", "G:A;A", "A;A;B", "A;B;B", "A;B;A", "X=b;X=a", "X=a;X=B", "X=a;X=a", "A=1;A-B", "AA;A=A", "X=a;A", "10;1", "2;10",
		// one that may not be
		"a", "Work", "HOME;work", "a=b", "x=Y", "1=A", "-=A", "A B", "A;B C", "A\x00", "\x00", "\n", "A\r\n", "A=\t", "A=b c", "\x7f", "\x80", "\xff", "A=\xc3\xa9", "A;\xc3\xa9",
		"ENCODING=B", "ENCODING=8BIT", "CHARSET=UTF-8", "A;CHARSET=X", "QUOTED-PRINTABLE", "BASE64", "8BIT", "7BIT", "7BIT;A", "G:BASE64", "A;B;C;QUOTED-PRINTABLE",
		strings.Repeat("A", 33), "A=" + strings.Repeat("b", 33), strings.Repeat("A", 33) + "=b",
		// five, and more
		"A;B;C;D;E", "G:A;B;C;D;E", "A=1;B=2;C=3;D=4;E=5", "A;B;C;D;E;F", "A;B;C;D;E;F;G", "A;B;C;D;E;F;G;H",
	}
)

// wrongTexts are texts of no contact that is right.
func wrongTexts() []string {
	a := text(sample.Contact("FN", "", "a", "TEL", "HOME;WORK", "1"))
	return []string{
		// no card
		"", "a", "\x00", "\xff", " ", "\r\n", "BEGIN:VCARD", "FN:a", longest, a[:len(a)-9], a[1:], a + a, a + "x", "\xef\xbb\xbf" + a,
		// one, but not as it would be printed
		a + "\r\n", a + " ", "\r\n" + a, a[:len(a)-1], a[:len(a)-2], strings.ReplaceAll(a, "\r\n", "\n"), strings.ToLower(a), strings.Replace(a, "FN", "fn", 1), strings.Replace(a, "FN:a", "FN;ENCODING=8BIT:a", 1), strings.Replace(a, "FN:a", "FN;QUOTED-PRINTABLE:a", 1),
		strings.Replace(a, "FN:a", "FN;CHARSET=UTF-8;ENCODING=QUOTED-PRINTABLE:a", 1), strings.Replace(a, "FN:a", "FN;BASE64:YQ==", 1), strings.Replace(a, "FN:a", "FN:\xff", 1), strings.Replace(a, "FN:a", "FN:\t", 1), strings.Replace(a, "\r\nTEL", "\r\n\r\nTEL", 1), strings.Replace(a, "FN:a", "FN:a\r\n b", 1), strings.Replace(a, "HOME", "home", 1),
		// as it would be printed, but in another order, or twice
		print(cardOf("TEL;HOME;WORK:1", "FN:a")), print(cardOf("FN:a", "TEL;WORK;HOME:1")), print(cardOf("FN:b", "FN:a")), print(cardOf("FN;X:a", "FN:a")), print(cardOf("FN:a", "FN:a")), print(cardOf("TEL;HOME;HOME:1")), print(cardOf("G.TEL;X=b;X=a:1")), print(cardOf("G.FN:a", "FN:a")),
		print(api.Card{Props: []api.Prop{agent("AGENT", line("TEL:1"), line("FN:a"))}}), print(api.Card{Props: []api.Prop{agent("AGENT;B;A")}}), print(api.Card{Props: []api.Prop{agent("AGENT", line("TEL;B;A:1"))}}), print(api.Card{Props: []api.Prop{agent("AGENT", line("B:")), agent("AGENT", line("A:"))}}), print(api.Card{Props: []api.Prop{agent("AGENT", line("A:")), agent("AGENT", line("A:"))}}),
		// too deep for a card
		print4(),
	}
}

// print is the text of a card that may be.
func print(c api.Card) string {
	s, e := vcard.Print(c)
	if e != api.OK {
		panic(e)
	}
	return s
}

// print4 is what would be the text of four cards within one another.
func print4() string {
	return "BEGIN:VCARD\r\nVERSION:2.1\r\nAGENT:\r\n" + agentText(3) + "END:VCARD\r\n"
}

// 11.2: contacts that are right, with their cards and texts.
func TestRight(t *testing.T) {
	for _, one := range []struct {
		c    api.Contact
		card api.Card
		text string
	}{
		{api.Contact{}, api.Card{}, ""},
		{api.Contact{Fields: []api.Field{}}, api.Card{}, ""},
		{sample.Contact("FN", "", "a"), cardOf("FN:a"), "FN:a\r\n"},
		{sample.Contact("FN", "", "a", "TEL", "HOME;WORK", "1"), cardOf("FN:a", "TEL;HOME;WORK:1"), "FN:a\r\nTEL;HOME;WORK:1\r\n"},
		{sample.Contact("FN", "", "a", "FN", "", "b", "FN", "A", "", "FN", "G:", ""), cardOf("FN:a", "FN:b", "FN;A:", "G.FN:"), "FN:a\r\nFN:b\r\nFN;A:\r\nG.FN:\r\n"},
		{sample.Contact("N", "G:TYPE=b;X", "Ex;Ann"), cardOf("G.N;TYPE=b;X:Ex;Ann"), "G.N;TYPE=b;X:Ex;Ann\r\n"},
		{sample.Contact("N", "1;A=b;C=D;E", "\xff"), api.Card{Props: []api.Prop{valued("N;1;A=b;C=D;E", "\xff")}}, "N;1;A=b;C=D;E;ENCODING=BASE64: /w==\r\n"},
		{sample.Contact("N", "", "a\r\n\x00"), api.Card{Props: []api.Prop{valued("N", "a\r\n\x00")}}, "N;CHARSET=UTF-8;ENCODING=QUOTED-PRINTABLE:a=0D=0A=00\r\n"},
		{sample.Contact("AGENT", "", print(api.Card{})), api.Card{Props: []api.Prop{agent("AGENT")}}, "AGENT:\r\nBEGIN:VCARD\r\nVERSION:2.1\r\nEND:VCARD\r\n"},
		{sample.Contact("AGENT", "G:X", text(sample.Contact("FN", "", "b", "TEL", "HOME", "1")), "FN", "", "a"), api.Card{Props: []api.Prop{agent("G.AGENT;X", line("FN:b"), line("TEL;HOME:1")), line("FN:a")}}, "G.AGENT;X:\r\nBEGIN:VCARD\r\nVERSION:2.1\r\nFN:b\r\nTEL;HOME:1\r\nEND:VCARD\r\nFN:a\r\n"},
		{sample.Contact("AGENT", "", agentText(2)), api.Card{Props: []api.Prop{agent("AGENT", agent("AGENT", line("FN:a")))}}, "AGENT:\r\nBEGIN:VCARD\r\nVERSION:2.1\r\nAGENT:\r\nBEGIN:VCARD\r\nVERSION:2.1\r\nFN:a\r\nEND:VCARD\r\nEND:VCARD\r\n"},
		// another name with such a text: it is a text as all others
		{sample.Contact("NOTE", "", "BEGIN:VCARD"), cardOf("NOTE:BEGIN:VCARD"), "NOTE:BEGIN:VCARD\r\n"},
		{sample.Contact("NOTE", "", agentText(1)), api.Card{Props: []api.Prop{valued("NOTE", agentText(1))}}, "NOTE;CHARSET=UTF-8;ENCODING=QUOTED-PRINTABLE:BEGIN:VCARD=0D=0AVERSION:2.1=0D=0AFN:a=0D=0AEND:VCARD=0D=0A\r\n"},
	} {
		card, e := contact.Card(one.c)
		if e != api.OK || !vcard.Same(card, one.card) {
			t.Errorf("Card(%q): %q and %v, not %q", one.c, card, e, one.card)
		}
		want := "BEGIN:VCARD\r\nVERSION:2.1\r\n" + one.text + "END:VCARD\r\n"
		if s, e := contact.Text(one.c); e != api.OK || s != want {
			t.Errorf("Text(%q): %q and %v, not %q", one.c, s, e, want)
		}
		right(t, one.c)
	}
}

// A fault is a field with which one thing is wrong, for the first and for the second place of two (names, labels and texts of the second one come behind), and what Check says of it.
type fault struct {
	fields [2]api.Field
	e      api.Errno
	late   bool // it is told behind what is wrong with any field
}

// faults are such ones; of each kind that the chapter names there is one at least, but for the order.
func faults() []fault {
	at := func(e api.Errno, name, label, text string) fault {
		return fault{[2]api.Field{{Name: "AB" + name, Label: label, Text: text}, {Name: "M" + name, Label: label, Text: text}}, e, false}
	}
	agents := func(e api.Errno, text string) fault {
		return fault{[2]api.Field{{Name: "AGENT", Text: text}, {Name: "AGENT", Label: "Z", Text: text}}, e, e == api.ErrDeep}
	}
	l := []fault{
		at(api.ErrField, "", "b", ""), at(api.ErrField, "", "B;A", "x"), at(api.ErrField, "", "A;A", ""), at(api.ErrField, "", "g:A", ""), at(api.ErrField, "", "A;B;C;D;E", ""), at(api.ErrField, "", "BASE64", ""), at(api.ErrField, "_", ":", long),
		at(api.ErrLong, "", "", long), at(api.ErrLong, "_", "G:A;B;C;D", long),
		agents(api.ErrKind, ""), agents(api.ErrKind, strings.ToLower(agentText(1))), agents(api.ErrKind, print(cardOf("TEL:1", "FN:a"))), agents(api.ErrKind, print4()),
		agents(api.ErrLong, long), agents(api.ErrLong, textOfSize(mostText+1)),
		agents(api.ErrDeep, agentText(3)),
	}
	for _, name := range []string{"_", " ", ".X", "\x00", "a", "\xff", strings.Repeat("X", 32)} {
		l = append(l, at(api.ErrName, name, "", ""))
		l[len(l)-1].late = true
	}
	return l
}

// rightOnes are a pair of fields with which nothing is wrong, for each kind of place.
func rightOnes() []fault {
	return []fault{
		{[2]api.Field{{Name: "AB", Text: longest}, {Name: "M", Label: "A;B;C;D", Text: "\x00"}}, api.OK, false},
		{[2]api.Field{{Name: "AGENT", Text: agentText(2)}, {Name: "AGENT", Label: "Z", Text: agentText(1)}}, api.OK, false},
	}
}

// placed is a contact of so many fields, of which two stand at places i and j, the first ahead of the second.
func placed(count, i, j int, first, second fault) api.Contact {
	a, b := first.fields[0], second.fields[1]
	var c api.Contact
	for k := range count {
		f := api.Field{Name: fmt.Sprintf("Z%02d", k), Text: "z"}
		switch {
		case k == i:
			f = a
		case k == j:
			f = b
		case k < i:
			f.Name = fmt.Sprintf("A%02d", k)
		case k < j && a.Name == b.Name:
			f = api.Field{Name: "AGENT", Label: fmt.Sprintf("M%02d", k), Text: agentText(1)}
		case k < j && a.Name == "AGENT":
			f.Name = fmt.Sprintf("AGENT%02d", k)
		case k < j:
			f.Name = fmt.Sprintf("AC%02d", k)
		}
		c.Fields = append(c.Fields, f)
	}
	return c
}

// firstOf is what Check says of two in one contact.
func firstOf(first, second fault) api.Errno {
	switch {
	case first.e != api.OK && !first.late:
		return first.e
	case second.e != api.OK && !second.late:
		return second.e
	case second.e == api.ErrDeep, first.e == api.OK:
		return second.e
	}
	return first.e
}

// 11.2: each error of a field alone, and each pair of them in two fields, at the first, a middle and the last one.
func TestCheckFaults(t *testing.T) {
	all := append(faults(), rightOnes()...)
	for _, first := range all {
		for _, second := range all {
			for _, places := range [][3]int{{2, 0, 1}, {3, 0, 2}, {3, 1, 2}, {9, 0, 4}, {9, 4, 8}, {mostFields, 0, mostFields - 1}, {mostFields, 0, 1}, {mostFields, 11, 12}, {mostFields, mostFields - 2, mostFields - 1}} {
				c := placed(places[0], places[1], places[2], first, second)
				want := firstOf(first, second)
				if want == api.OK {
					right(t, c)
				} else {
					wrong(t, c, want)
				}
				if got := checkWords(c); got != want {
					t.Errorf("the words say %v of %.300q, not %v", got, c, want)
				}
			}
		}
		for _, f := range first.fields {
			if c := (api.Contact{Fields: []api.Field{f}}); first.e == api.OK {
				right(t, c)
			} else {
				wrong(t, c, first.e)
			}
		}
		// more than there may be, first of all
		wrong(t, placed(mostFields+1, 0, mostFields, first, first), api.ErrFull)
		wrong(t, placed(mostFields+1, 7, 9, first, all[0]), api.ErrFull)
	}
}

// 11.2: the order, at the first, a middle and the last field, ahead of what else is wrong with the field, and behind what is wrong with those ahead.
func TestCheckOrder(t *testing.T) {
	ones := rightOnes()
	for _, count := range []int{2, 3, 9, mostFields} {
		for at := 1; at < count; at++ {
			c := placed(count, at-1, at, ones[0], ones[0])
			behind := c.Fields[at]
			for _, bad := range []api.Field{
				c.Fields[at-1], c.Fields[0], {}, {Name: "A"}, {Name: "AB"}, {Name: "AB", Text: longest[1:]}, {Name: "AA", Label: "Z", Text: "z"}, {Name: "A9", Label: "b"}, {Name: "AB", Label: "", Text: long[:mostText]}, {Name: "", Label: ":", Text: long}, {Name: "AA_", Text: long}, {Name: "A-", Label: "b"},
			} {
				c.Fields[at] = bad
				wrong(t, c, api.ErrOrder)
			}
			c.Fields[at] = behind
			for _, one := range faults() {
				// what is wrong with the one ahead is told first, if it is not told behind all of them
				c.Fields[at-1], c.Fields[at] = one.fields[0], one.fields[0]
				if one.late {
					wrong(t, c, api.ErrOrder)
				} else {
					wrong(t, c, one.e)
				}
				// what is wrong with the one that does not come behind, and with those behind that, is not
				c.Fields[at-1], c.Fields[at] = api.Field{Name: "N"}, one.fields[1]
				wrong(t, c, api.ErrOrder)
				if at+1 < count {
					c.Fields[at], c.Fields[at+1] = api.Field{Name: "N"}, one.fields[1]
					wrong(t, c, api.ErrOrder)
				}
			}
		}
	}
	wrong(t, sample.Contact("FN", "", "a", "FN", "", "a"), api.ErrOrder)
	wrong(t, sample.Contact("TEL", "", "a", "FN", "", "a"), api.ErrOrder)
	wrong(t, sample.Contact("FN", "B", "a", "FN", "A", "b"), api.ErrOrder)
	wrong(t, sample.Contact("FN", "", "b", "FN", "", "a"), api.ErrOrder)
	wrong(t, sample.Contact("FN", "", "ab", "FN", "", "a"), api.ErrOrder)
	wrong(t, sample.Contact("FN", "", "\xff", "FN", "", "a"), api.ErrOrder)
	wrong(t, sample.Contact("FN", "", "a", "TEL", "", "1", "FN", "", "b"), api.ErrOrder)
	wrong(t, sample.Contact("AGENT", "", "x", "AGENT", "", "x"), api.ErrKind)
	wrong(t, sample.Contact("AGENT", "", agentText(1), "AGENT", "", agentText(1)), api.ErrOrder)
	wrong(t, sample.Contact("FN", "", "a", "AGENT", "", "x"), api.ErrOrder)
	wrong(t, sample.Contact("FN", "", "a", "FN", "", "a", "FN", "", "a"), api.ErrOrder)
	right(t, sample.Contact("FN", "", "", "FN", "", "\x00", "FN", "", "a", "FN", "", "\x80", "FN", "", "\xff", "FN", "A", "", "FN", "A;B", "", "FN", "B", "", "FN-1", "", "", "FN0", "", ""))
}

// 11.2: of several errors of one field the one that is named first.
func TestCheckFirst(t *testing.T) {
	ahead := api.Field{Name: "MM", Label: "M", Text: "m"}
	worst := api.Field{Name: "A_", Label: "b", Text: long}
	wrong(t, api.Contact{Fields: []api.Field{ahead, worst}}, api.ErrOrder)
	worst.Name = "_"
	wrong(t, api.Contact{Fields: []api.Field{ahead, worst}}, api.ErrField)
	worst.Label = "B"
	wrong(t, api.Contact{Fields: []api.Field{ahead, worst}}, api.ErrLong)
	worst.Text = longest
	wrong(t, api.Contact{Fields: []api.Field{ahead, worst}}, api.ErrName)
	worst.Name = "N"
	right(t, api.Contact{Fields: []api.Field{ahead, worst}})
	ahead, worst = api.Field{Name: "AGENT", Label: "M", Text: agentText(1)}, api.Field{Name: "AGENT", Label: "LL;b", Text: long}
	wrong(t, api.Contact{Fields: []api.Field{ahead, worst}}, api.ErrOrder)
	worst.Label = "N;b"
	wrong(t, api.Contact{Fields: []api.Field{ahead, worst}}, api.ErrField)
	worst.Label = "N"
	wrong(t, api.Contact{Fields: []api.Field{ahead, worst}}, api.ErrLong)
	worst.Text = longest
	wrong(t, api.Contact{Fields: []api.Field{ahead, worst}}, api.ErrKind)
	worst.Text = agentText(3)
	wrong(t, api.Contact{Fields: []api.Field{ahead, worst}}, api.ErrDeep)
	worst.Text = agentText(2)
	right(t, api.Contact{Fields: []api.Field{ahead, worst}})

	count := map[api.Errno]int{}
	for _, name := range []string{"", "_", "AGENT", "AGENTS", "BEGIN", "END", "VERSION", "N", "n"} {
		for _, label := range []string{"", "G:", "A;B;C;D", "A;B;C;D;E", "B;A", "b", ":"} {
			for _, text := range []string{"", longest, long, agentText(1), agentText(2), agentText(3), print4(), textOfSize(mostText), textOfSize(mostText + 1), strings.ToLower(agentText(1)), "\x00\n"} {
				f := api.Field{Name: name, Label: label, Text: text}
				for _, other := range []api.Field{{Name: "A"}, {Name: "AGENT", Text: agentText(1)}, {Name: "AGENT", Text: agentText(3)}, {Name: "M"}, {Name: "M_"}, {Name: "M", Label: ":"}, {Name: "_", Text: "x"}, f} {
					count[checked(t, api.Contact{Fields: []api.Field{f, other}})]++
					count[checked(t, api.Contact{Fields: []api.Field{other, f}})]++
				}
				count[checked(t, api.Contact{Fields: []api.Field{f}})]++
			}
		}
	}
	for _, e := range []api.Errno{api.OK, api.ErrOrder, api.ErrField, api.ErrLong, api.ErrKind, api.ErrName, api.ErrDeep} {
		if count[e] < 30 {
			t.Errorf("%d contacts with %v", count[e], e)
		}
	}
}

// 11.2: how many fields.
func TestCheckCounts(t *testing.T) {
	for _, count := range []int{0, 1, 2, 23, 24, 25, 26, 240, 1 << 16} {
		var c api.Contact
		for i := range count {
			c.Fields = append(c.Fields, api.Field{Name: "TEL", Text: fmt.Sprintf("%06d", i)})
		}
		if count <= mostFields {
			right(t, c)
		} else {
			wrong(t, c, api.ErrFull)
			c.Fields[0].Label = ":"
			wrong(t, c, api.ErrFull)
			clear(c.Fields)
			wrong(t, c, api.ErrFull)
		}
	}
}

// labelIs holds Check of a field with a label, and of one of AGENT, against whether it is one.
func labelIs(t *testing.T, label string, is bool) {
	t.Helper()
	for _, c := range []api.Contact{sample.Contact("N", label, "v"), sample.Contact("AGENT", label, agentText(1)), sample.Contact("A", "", "", "B", label, "", "C", "", "")} {
		if is {
			right(t, c)
		} else {
			wrong(t, c, api.ErrField)
		}
	}
}

// 11.2: labels, and what is none.
func TestCheckLabels(t *testing.T) {
	for _, label := range rightLabels {
		labelIs(t, label, true)
	}
	for _, label := range wrongLabels {
		labelIs(t, label, false)
	}
}

// 11.2: each byte put into a label, and put for each of its bytes; and labels cut off anywhere.
func TestCheckLabelBytes(t *testing.T) {
	held := func(label string) {
		t.Helper()
		_, is := labelledWords(label)
		c := sample.Contact("N", label, "v")
		if e := contact.Check(c); (e == api.OK) != is || !is && e != api.ErrField {
			t.Errorf("Check of the label %q: %v", label, e)
		}
		if is {
			right(t, c)
		}
	}
	for _, label := range []string{"", "G:", "A", "A;B", "G-1:A=b;C;D=e;F"} {
		for i := range len(label) + 1 {
			held(label[:i])
			held(label[i:])
			for _, b := range sample.Bytes() {
				held(label[:i] + b + label[i:])
				held(label[:i] + b + label[min(i+1, len(label)):])
			}
		}
	}
	for _, label := range append(append([]string(nil), rightLabels...), wrongLabels...) {
		for i := range len(label) + 1 {
			held(label[:i])
			for _, b := range []string{":", ";", "=", ";A", "A", "Z", "\x00"} {
				held(label[:i] + b + label[i:])
			}
		}
	}
}

// 11.2: many labels.
func TestCheckLabelsMany(t *testing.T) {
	pieces := []string{"A", "B", "C", "a", "1", "=", ";", ";", ":", "G:", "A;B", "A=b", "X=y", ";D", ";E", "8BIT", "CHARSET="}
	l := append(sample.Mixed(20000, 7, pieces), sample.Texts("AB;=:", 6)...)
	count := map[bool]int{}
	for _, label := range l {
		_, is := labelledWords(label)
		count[is]++
		if e := contact.Check(sample.Contact("N", label, "")); (e == api.OK) != is || !is && e != api.ErrField {
			t.Errorf("Check of the label %q: %v", label, e)
		}
	}
	if count[true] < 1000 || count[false] < 1000 {
		t.Errorf("%d labels are right, %d are none", count[true], count[false])
	}
}

// 11.2: a text's length.
func TestCheckTexts(t *testing.T) {
	for _, size := range []int{0, 1, 599, 600, 601, 602, 1200, 2401, 1 << 20} {
		for _, b := range []string{"v", " ", "=", "\x00", "\n", "\r", "\x7f", "\xff", "\xc3\xa9"} {
			for _, name := range []string{"A", "AGENTS", "AGEN", "X-AGENT"} {
				c := sample.Contact(name, "", strings.Repeat(b, size)[:size])
				if size <= mostText {
					right(t, c)
				} else {
					wrong(t, c, api.ErrLong)
				}
			}
		}
	}
	for size := 345; size <= 900; size++ {
		c := sample.Contact("AGENT", "", textOfSize(size))
		if size <= mostText {
			right(t, c)
		} else {
			wrong(t, c, api.ErrLong)
		}
	}
	for _, b := range sample.Bytes() {
		for _, s := range []string{b, b + b, "a" + b, b + "a", "\xc3" + b, "\r\n" + b} {
			right(t, sample.Contact("A", "", s, "B", "X", s))
		}
	}
}

// 11.2: AGENT's texts.
func TestCheckAgents(t *testing.T) {
	for i, s := range wrongTexts() {
		if isOwn(s) || len(s) > mostText {
			t.Errorf("text %d: %q", i, s)
		}
		wrong(t, sample.Contact("AGENT", "", s), api.ErrKind)
		wrong(t, sample.Contact("AGENT", "", agentText(1), "AGENT", "G:X", s, "FN", "", "a"), api.ErrKind)
		wrong(t, sample.Contact("AGENT", "", s, "AGENT", ":", "", "FN", "", long), api.ErrKind)
		for _, name := range []string{"AGENTS", "X-AGENT", "NOTE", "FN"} {
			right(t, sample.Contact(name, "", s))
		}
	}
	for _, c := range []api.Contact{{}, sample.Contact("FN", "", "a"), sample.Contact("FN", "", "\xff"), sample.Contact("FN", "", "\r\n"), sample.Contact("TEL", "G:A;B", "1", "TEL", "G:A;B", "2"), sample.Contact("NOTE", "", strings.Repeat("word ", 90)), sample.Contact("AGENT", "X=y", agentText(1), "FN", "", "")} {
		right(t, sample.Contact("AGENT", "", text(c)))
		right(t, sample.Contact("AGENT", "", text(c), "AGENT", "A", text(c), "NOTE", "", text(c)))
	}
}

// 11.2: contacts within one another, as deep as may be, and deeper.
func TestCheckDeep(t *testing.T) {
	right(t, sample.Contact("FN", "", "a"))
	right(t, sample.Contact("AGENT", "", agentText(1)))
	right(t, sample.Contact("AGENT", "", agentText(2)))
	wrong(t, sample.Contact("AGENT", "", agentText(3)), api.ErrDeep)
	wrong(t, sample.Contact("AGENT", "", print4()), api.ErrKind)
	// behind what is wrong with a field, ahead of what else is wrong with the card
	wrong(t, sample.Contact("AGENT", "", agentText(3), "FN", ":", ""), api.ErrField)
	wrong(t, sample.Contact("AGENT", "", agentText(3), "FN", "", "", "END", "", ""), api.ErrOrder)
	wrong(t, sample.Contact("AB_", "", "", "AGENT", "", agentText(3)), api.ErrDeep)
	wrong(t, sample.Contact("AGENT", "", agentText(3), "END", "", ""), api.ErrDeep)
	wrong(t, sample.Contact("AGENT", "", agentText(2), "END", "", ""), api.ErrName)
	wrong(t, sample.Contact("AGENT", "", agentText(2), "AGENT", "A", agentText(3), "AGENT", "B", agentText(1)), api.ErrDeep)
	big := sample.Contact("AGENT", "", agentText(3))
	for i := range 7 {
		big.Fields = append(big.Fields, api.Field{Name: fmt.Sprintf("N%d", i), Text: longest})
	}
	wrong(t, big, api.ErrDeep)
	wrong(t, api.Contact{Fields: big.Fields[1:]}, api.ErrLong)
}

// 11.2: names, which are the card's.
func TestCheckNames(t *testing.T) {
	for _, name := range []string{"", "fn", "1", "-", "A B", "A.B", "A:", "A;B", "\xc3\x89", "\xff", "A\x00", "A\r\n", "BEGIN", "END", "VERSION", "Agent", "AGENT ", strings.Repeat("A", 33), strings.Repeat("A", 1<<20)} {
		wrong(t, sample.Contact(name, "", "v"), api.ErrName)
		wrong(t, sample.Contact(name, "G:A;B", agentText(3)), api.ErrName)
		wrong(t, sample.Contact(name, "G", longest), api.ErrName)
		wrong(t, sample.Contact(name, "g", longest), api.ErrField)
		wrong(t, sample.Contact(name, "G", long), api.ErrLong)
	}
	for _, name := range []string{"A", "A-", "A1", "BEGINS", "EN", "VERSION2", "AGENTS", strings.Repeat("A", 32)} {
		right(t, sample.Contact(name, "", "v"))
		right(t, sample.Contact(name, "END:VERSION", ""))
	}
}

// 11.2: the text of the whole, last of all.
func TestCheckWhole(t *testing.T) {
	for _, b := range []string{"v", "v ", "=", "\xc3\xa9", "\xff"} {
		count := map[api.Errno]int{}
		for size := range mostText + 1 {
			c := sample.Contact("A", "", strings.Repeat(b, size)[:size])
			for _, name := range []string{"B", "C", "D", "E", "F"} {
				c.Fields = append(c.Fields, api.Field{Name: name, Text: longest})
			}
			c.Fields = append(c.Fields, api.Field{Name: "G", Text: longest[:345]})
			count[checked(t, c)]++
		}
		if count[api.OK] < 100 || count[api.ErrLong] < 1 || len(count) != 2 {
			t.Errorf("texts of %q: %v", b, count)
		}
	}
	// 37 bytes of the card's own, and 4 of each field's
	six := sample.Contact("A", "", longest, "B", "", longest, "C", "", longest, "D", "", longest, "E", "", longest, "F", "", longest)
	for size := range 401 {
		c := sample.Copy(six)
		c.Fields = append(c.Fields, api.Field{Name: "G", Text: longest[:size]})
		if 37+6*604+4+size <= mostCard {
			right(t, c)
		} else {
			wrong(t, c, api.ErrLong)
		}
	}
	six.Fields = append(six.Fields, api.Field{Name: "G", Text: longest})
	wrong(t, six, api.ErrLong)
	for _, one := range faults() {
		c := api.Contact{Fields: append([]api.Field{one.fields[0]}, six.Fields[2:]...)}
		if c.Fields[0].Name > "C" {
			t.Fatalf("%q is out of order", c.Fields[0].Name)
		}
		c.Fields = append(c.Fields, api.Field{Name: "H", Text: longest}, api.Field{Name: "I", Text: longest})
		wrong(t, c, one.e)
	}
}

// pool are fields, more of them right than wrong; those of each name stand together.
func pool() []api.Field {
	return []api.Field{
		{Name: "AGENT", Text: agentText(1)}, {Name: "AGENT", Text: agentText(2)}, {Name: "AGENT", Label: "G:X", Text: agentText(1)}, {Name: "AGENT", Label: "X", Text: textOfSize(mostText)}, {Name: "AGENT", Label: "Y", Text: text(sample.Contact("TEL", "A;B", "1"))},
		{Name: "FN", Text: "a"}, {Name: "FN", Text: "b"}, {Name: "FN", Label: "A", Text: "a"}, {Name: "N", Text: "Ex;Ann"}, {Name: "NOTE", Text: "\xff\x00"}, {Name: "NOTE", Text: "\r\n"}, {Name: "NOTE", Text: agentText(2)}, {Name: "ORG", Label: "G:", Text: "\xc3\xa9"},
		{Name: "TEL", Text: "1"}, {Name: "TEL", Label: "HOME", Text: "1"}, {Name: "TEL", Label: "HOME;WORK", Text: "1"}, {Name: "TEL", Label: "G:HOME;X=y", Text: "1"}, {Name: "TEL", Label: "A;B;C;D", Text: strings.Repeat("word ", 20)}, {Name: "X-Y", Label: "A=b;A=c"}, {Name: "Z", Text: longest},
		{Name: "AGENT", Text: agentText(3)}, {Name: "AGENT", Text: "x"}, {Name: "FN", Text: long}, {Name: "TEL", Label: "WORK;HOME"}, {Name: "N_"}, {Name: "END"},
	}
}

// 11.2 and 11.4: many contacts.
func TestCheckMany(t *testing.T) {
	fields := pool()
	var letters []string
	for i := range fields {
		letters = append(letters, string([]byte{byte(i)}))
	}
	const right = 20
	count := map[api.Errno]int{}
	for i, s := range append(sample.Mixed(3000, 9, letters[:right]), append(sample.Mixed(2000, 6, letters), sample.Mixed(300, 40, letters)...)...) {
		var c api.Contact
		for _, at := range []byte(s) {
			c.Fields = append(c.Fields, fields[at])
		}
		if i%5 > 0 {
			slices.SortFunc(c.Fields, orderWords)
			c.Fields = slices.Compact(c.Fields)
		}
		count[checked(t, c)]++
	}
	for _, e := range []api.Errno{api.ErrFull, api.ErrOrder, api.ErrField, api.ErrLong, api.ErrKind, api.ErrName, api.ErrDeep} {
		if count[e] < 10 {
			t.Errorf("%d contacts with %v", count[e], e)
		}
	}
	if count[api.OK] < 2000 {
		t.Errorf("%d contacts are right", count[api.OK])
	}
}

// What is handed in stays as it is, behind the list's end, too; and what Card hands out is nobody else's, and no two lists of it are one.
func TestCardListsOfTheirOwn(t *testing.T) {
	fields := sample.Contact("AGENT", "A", text(sample.Contact("AGENT", "A;B", text(sample.Contact("TEL", "A;B;C", "1")), "TEL", "A;B;C", "1")), "AGENT", "B", agentText(1), "TEL", "A;B;C", "1", "TEL", "A;B;C", "2").Fields
	c := api.Contact{Fields: append(make([]api.Field, 0, 16), fields...)}
	want := cardWords(c)
	right(t, c)
	for _, f := range c.Fields[len(c.Fields):cap(c.Fields)] {
		if f != (api.Field{}) {
			t.Errorf("behind the fields: %q", f)
		}
	}
	for _, path := range [][]int{{}, {0}, {0, 0}, {1}} {
		got, _ := contact.Card(c)
		other, _ := contact.Card(c)
		mine, theirs := &got, &want
		for _, at := range path {
			mine, theirs = &mine.Props[at].Agent[0], &theirs.Props[at].Agent[0]
		}
		for i := range mine.Props {
			_ = append(mine.Props[i].Params, api.Param{Name: "BEHIND"}, api.Param{Name: "BEHIND"})
			_ = append(mine.Props[i].Agent, cardOf("BEHIND:"))
		}
		_ = append(mine.Props, line("BEHIND:"), line("BEHIND:"))
		if !reflect.DeepEqual(got, other) {
			t.Errorf("lists are shared: %q, not %q", got, other)
		}
		kept := theirs.Props
		theirs.Props = nil
		for i, p := range kept {
			p.Params = slices.Clone(p.Params)
			for j := range p.Params {
				mine.Props[i].Params[j].Value += "!"
				p.Params[j].Value += "!"
			}
			theirs.Props = append(theirs.Props, p)
		}
		if !vcard.Same(got, want) {
			t.Errorf("lists are shared: %q, not %q", got, want)
		}
		theirs.Props = kept
		for i := range mine.Props {
			mine.Props[i] = api.Prop{}
		}
		if !vcard.Same(other, want) {
			t.Errorf("another card is spoilt: %q, not %q", other, want)
		}
		right(t, c)
	}
}
