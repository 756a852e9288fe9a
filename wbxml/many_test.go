package wbxml_test

import (
	"slices"
	"strings"
	"testing"

	"cardcase/api"
	"cardcase/sample"
	"cardcase/tree"
	"cardcase/vocab"
	"cardcase/wbxml"
)

// told holds Read of any text against 15.2, said once more; what is read may be written, if it is not too long, and is read as the same again.
func told(t *testing.T, s string) {
	t.Helper()
	e, at, wrong := wbxml.Read(s)
	want, may := readWords(s)
	if len(may) > 0 {
		if !slices.Contains(may, fault{at, wrong}) || !same(e, api.Elem{}) {
			t.Errorf("Read of %.100x: %.60v, %v at %d, not one of %v", s, e, wrong, at, may)
		}
		return
	}
	if wrong != api.OK || at != 0 || !same(e, want) {
		t.Errorf("Read of %.100x: %.60v, %v at %d, not %.60v", s, e, wrong, at, want)
	}
	again(t, e)
}

// again holds that an element is written as 15.1 has it, and read as it was.
func again(t *testing.T, e api.Elem) {
	t.Helper()
	want := writeWords(e)
	s, wrong := wbxml.Write(e)
	if len(want) > mostDoc {
		if s != "" || wrong != api.ErrLong {
			t.Errorf("Write of %.60v: %d bytes, %v", e, len(s), wrong)
		}
		return
	}
	if s != want || wrong != api.OK {
		t.Errorf("Write of %.60v: %.100x, %v, not %.100x", e, s, wrong, want)
	}
	if got := wbxml.Table(e); !slices.Equal(got, tableWords(e)) {
		t.Errorf("Table of %.60v: %.60q", e, got)
	}
	if got, at, wrong := wbxml.Read(s); wrong != api.OK || at != 0 || !same(got, e) {
		t.Errorf("Read of %.100x: %.60v, %v at %d, not %.60v", s, got, wrong, at, e)
	}
}

// 15.3: elements of each page, with each of its names, alone, with a text, with bytes, with kids of all pages.
func TestAgainPages(t *testing.T) {
	for page := range 3 {
		for _, name := range vocab.Each(page) {
			for other := range 3 {
				again(t, leaf(other, name, ""))
				again(t, leaf(other, name, name))
				again(t, holder(other, name, name+"\x00"))
				again(t, node(other, name, leaf(page, name, "text"), leaf(other, "Other", "text"), holder(1, name, "text"), leaf(0, name, "")))
			}
		}
	}
}

// 15.1 and 15.3: many elements that are right.
func TestAgainMany(t *testing.T) {
	l := mixed(8000)
	if len(l) < 4000 {
		t.Fatalf("just %d elements", len(l))
	}
	tabled, literal, paged, held := 0, 0, 0, 0
	for _, e := range l {
		before := copyOf(e)
		again(t, e)
		if !same(e, before) {
			t.Errorf("what was handed in is %v", e)
		}
		s := writeWords(e)
		tabled += strings.Count(s, "\x83")
		literal += strings.Count(s, "\x04")
		paged += strings.Count(s, "\x00\x01")
		held += strings.Count(s, "\xc3")
	}
	if min(tabled, literal, paged, held) < 1000 {
		t.Errorf("just %d texts of the table, %d names, %d pages, %d of bytes", tabled, literal, paged, held)
	}
}

// 15.1: elements of which most are not right.
func TestWriteWrong(t *testing.T) {
	for _, letters := range sample.Mixed(3000, 20, []string{"A", "B.", "C", ".", "x", "v", "o", "p", "\x00.", "\xff", "E\x01", "-n", "nnnnnnnnnnnnnnnnn"}) {
		e := sample.Elem(letters)
		want := tree.Check(e)
		if want == api.OK {
			again(t, e)
			continue
		}
		tables(t, letters, e)
		refusesElem(t, letters, e, want)
	}
}

// docs are documents, short ones, that have all that a document may have, and some that no writer makes.
func docs() []string {
	const table = "abcd\x00Any\x00-\x00Z"
	l := []string{
		doc("", "\x05"), doc("", "\x00\x02\x05"), doc("a", "\x45\x01"), doc("Any\x00", "\x04\x00"),
		doc(table, "\x45\x03ab\x00\x83\x00\x03\x00\x01"),
		doc(table, "\x45\xc3\x03\x00\x01\xff\x01"), doc("", "\x45\xc3\x00\x01"),
		doc(table, "\x45\x00\x01\x4a\x83\x02\x01\x44\x05\x00\x02\x05\x01\x00\x00\x46\xc3\x01\x05\x01\x01"),
		doc(table, "\x45\x45\x45\x45\x45\x45\x45\x45\x45\x45\x45\x05\x01\x01\x01\x01\x01\x01\x01\x01\x01\x01\x01"),
		doc(table, strings.Repeat("\x45", 12)+"\x03a\x00"+strings.Repeat("\x01", 12)),
		"\x03\x81\x01\x6a\x00\x05", "\x03\x01\x80\x6a\x00\x05", "\x03\x01\x6a\x80\x00\x05",
	}
	for _, e := range []api.Elem{
		leaf(1, "Last", "a"), node(0, "Sync", leaf(0, "Data", "abcd"), leaf(1, "Size", "abcd"), holder(2, "Any", "abcd")),
		node(0, "SyncML", node(0, "SyncHdr", leaf(0, "VerDTD", "1.2"), leaf(0, "VerProto", "SyncML/1.2"), node(0, "Meta", leaf(1, "MaxMsgSize", "700"))), node(0, "SyncBody", leaf(0, "Final", ""))),
		node(2, "Long", leaf(2, "Data", strings.Repeat("a", 60)), leaf(2, "Data", strings.Repeat("a", 60)), leaf(2, "Longer", strings.Repeat("b", 61)), holder(1, "Longest", strings.Repeat("\x01", 128)), leaf(0, "Last", strings.Repeat("b", 61))),
	} {
		l = append(l, writeWords(e))
	}
	return l
}

// 15.2, P1: documents cut off at each byte, with a byte more and a byte less at each place, and with each byte another one.
func TestReadSpoilt(t *testing.T) {
	for _, s := range docs() {
		told(t, s)
		for at := range len(s) {
			told(t, s[:at])
			told(t, s[at:])
			told(t, s[:at]+s[at+1:])
			told(t, s[:at]+s)
			for _, b := range sample.Bytes() {
				told(t, s[:at]+b+s[at+1:])
				told(t, s[:at]+b+s[at:])
				told(t, s[:at]+b)
			}
		}
		for _, b := range sample.Bytes() {
			told(t, s+b)
		}
	}
}

// 15.2, P1: numbers far too great, and texts far too long, at each place of a document.
func TestReadFar(t *testing.T) {
	for _, s := range docs() {
		for at := range len(s) + 1 {
			for _, far := range []string{
				"\xff\xff\xff\x7f", "\x8f\xff\xff\xff\x7f", "\x90\x80\x80\x80\x00", "\x88\x80\x80\x80\x00", "\xff\xff\xff\xff\xff\xff", "\x80\x80\x80",
				"\x83\xff\x7f", "\xc3\xff\x7f", "\xc3\x88\x80\x80\x80\x00", "\x04\x8f\xff\xff\xff\x7f", strings.Repeat("\x00", 40), strings.Repeat("\x45", 40), strings.Repeat("a", 5000),
			} {
				told(t, s[:at]+far+s[at:])
				told(t, s[:at]+far)
			}
		}
	}
	for _, b := range sample.Bytes() {
		told(t, strings.Repeat(b, mostDoc))
		told(t, doc("", "")+strings.Repeat(b, mostDoc-4))
		told(t, doc("", "\x45")+strings.Repeat(b, mostDoc-5))
		told(t, doc("abcd\x00", "\x45\x03")+strings.Repeat(b, mostDoc-20))
		told(t, doc("abcd\x00", "\x45\x83\x00")+strings.Repeat(b, 100))
	}
}

// 15.2, P1: many texts that nearly are documents.
func TestReadMixed(t *testing.T) {
	right := 0
	for _, pieces := range [][]string{
		{"\x05", "\x45", "\x01", "\x01", "\x00\x01", "\x00\x02", "\x00\x00", "\x06", "\x46", "\x03a\x00", "\x83\x00", "\xc3\x01b", "\x04\x05", "\x44\x05", "\x01\x01"},
		{"\x45", "\x45\x45", "\x01", "\x01\x01", "\x05", "\x00\x01", "\x46\x03c\x00\x01", "\x46\xc3\x00\x01", "\x01"},
		{"\x45\x03", "a\x00", "\x03a\x00", "\x83\x01", "\x83\x02", "\x83\x05", "\x01", "\x45\xc3\x02", "ab", "\x01"},
		{"\x00", "\x01", "\x02", "\x03", "\x04", "\x05", "\x40", "\x43", "\x44", "\x45", "\x83", "\xc3", "\x80", "\xff", "\x3f", "\x7f"},
	} {
		for _, body := range sample.Mixed(15000, 10, pieces) {
			for _, table := range []string{"", "abcd\x00Any\x00", "abcd\x00An"} {
				s := doc(table, "\x45"+body+"\x01")
				told(t, s)
				told(t, doc(table, body))
				if _, may := readWords(s); len(may) == 0 {
					right++
				}
			}
		}
	}
	if right < 5000 {
		t.Errorf("just %d documents were right", right)
	}
}
