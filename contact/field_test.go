package contact_test

import (
	"cmp"
	"slices"
	"strings"
	"testing"

	"cardcase/api"
	"cardcase/contact"
	"cardcase/sample"
)

// rising are texts, from the least on.
var rising = []string{"", "\x00", "\x00\x00", "\n", " ", "-", "A", "A\x00", "A B", "A-", "AA", "AB", "B", "a", "\x7f", "\x80", "\xc3\xa9", "\xff", "\xff\x00"}

// compared holds Compare, of both orders, against what it must answer.
func compared(t *testing.T, a, b api.Field, want int) {
	t.Helper()
	if got := contact.Compare(a, b); got != want {
		t.Errorf("Compare(%.300q, %.300q): %d, not %d", a, b, got, want)
	}
	if got := contact.Compare(b, a); got != -want {
		t.Errorf("Compare(%.300q, %.300q): %d, not %d", b, a, got, -want)
	}
}

// 11.1: fields that differ in just one of Name, Label and Text, in two, in all, or in none.
func TestCompare(t *testing.T) {
	for i, a := range rising {
		for j, b := range rising {
			want := cmp.Compare(i, j)
			for _, other := range []string{"", "A", "a;b", "\xff"} {
				compared(t, api.Field{Name: a, Label: other, Text: other}, api.Field{Name: b, Label: other, Text: other}, want)
				compared(t, api.Field{Name: other, Label: a, Text: other}, api.Field{Name: other, Label: b, Text: other}, want)
				compared(t, api.Field{Name: other, Label: other, Text: a}, api.Field{Name: other, Label: other, Text: b}, want)
			}
			if i == j {
				continue
			}
			// the first that differs decides
			compared(t, api.Field{Name: a, Label: b, Text: b}, api.Field{Name: b, Label: a, Text: a}, want)
			compared(t, api.Field{Name: a, Label: a, Text: b}, api.Field{Name: b, Label: a, Text: a}, want)
			compared(t, api.Field{Name: a, Label: b, Text: a}, api.Field{Name: b, Label: a, Text: a}, want)
			compared(t, api.Field{Name: "N", Label: a, Text: b}, api.Field{Name: "N", Label: b, Text: a}, want)
		}
	}
	long := strings.Repeat("v", 1<<20)
	compared(t, api.Field{Name: long}, api.Field{Name: long}, 0)
	compared(t, api.Field{Name: long}, api.Field{Name: long + "\x00"}, -1)
	compared(t, api.Field{Name: long, Label: long, Text: long + "a"}, api.Field{Name: long, Label: long, Text: long + "\xff"}, -1)
	// no two of the three are taken for one text
	compared(t, api.Field{Name: "A", Label: "B"}, api.Field{Name: "AB"}, -1)
	compared(t, api.Field{Label: "A", Text: "B"}, api.Field{Label: "AB"}, -1)
	compared(t, api.Field{Name: "A", Text: "B"}, api.Field{Name: "A", Label: "B"}, -1)
}

// 11.1: Compare of all fields of some texts, against its words.
func TestCompareMany(t *testing.T) {
	var all []api.Field
	l := []string{"", "A", "AA", "B", "a", "\xff"}
	for _, name := range l {
		for _, label := range l {
			for _, text := range l {
				all = append(all, api.Field{Name: name, Label: label, Text: text})
			}
		}
	}
	for i, a := range all {
		for j, b := range all {
			compared(t, a, b, orderWords(a, b))
			compared(t, a, b, cmp.Compare(i, j))
		}
	}
}

// same holds Same, of both orders, against what it must answer.
func same(t *testing.T, a, b api.Contact, want bool) {
	t.Helper()
	if got := contact.Same(a, b); got != want {
		t.Errorf("Same(%.300q, %.300q): %v", a, b, got)
	}
	if got := contact.Same(b, a); got != want {
		t.Errorf("Same(%.300q, %.300q): %v", b, a, got)
	}
}

// changed are contacts that differ from one in just one thing, in each place.
func changed(c api.Contact) []api.Contact {
	var l []api.Contact
	change := func(how func(c *api.Contact)) {
		other := sample.Copy(c)
		how(&other)
		l = append(l, other)
	}
	for i := range len(c.Fields) + 1 {
		change(func(c *api.Contact) { c.Fields = slices.Insert(c.Fields, i, api.Field{}) })
	}
	for i := range c.Fields {
		change(func(c *api.Contact) { c.Fields = slices.Delete(c.Fields, i, i+1) })
		change(func(c *api.Contact) { c.Fields[i].Name += "\x00" })
		change(func(c *api.Contact) { c.Fields[i].Label += "\x00" })
		change(func(c *api.Contact) { c.Fields[i].Text += "\x00" })
		for j := range i {
			change(func(c *api.Contact) { c.Fields[i], c.Fields[j] = c.Fields[j], c.Fields[i] })
		}
	}
	return l
}

// 11.1: Same.
func TestSame(t *testing.T) {
	full := sample.Contact("FN", "", "a", "FN", "", "b", "TEL", "HOME;WORK", "1", "TEL", "G:", "1", "", "", "x", "\xff", "\x00", "\n")
	all := append(changed(full), full)
	if len(all) != 7+6*4+15+1 {
		t.Errorf("%d contacts", len(all))
	}
	for i, a := range all {
		for j, b := range all {
			if got := contact.Same(a, b); got != (i == j) {
				t.Errorf("Same(%q, %q): %v", a, b, got)
			}
		}
		same(t, a, sample.Copy(a), true)
	}
	same(t, api.Contact{}, api.Contact{}, true)
	same(t, api.Contact{}, api.Contact{Fields: []api.Field{}}, true)
	same(t, api.Contact{}, api.Contact{Fields: []api.Field{{}}}, false)
	same(t, api.Contact{Fields: full.Fields[:0]}, api.Contact{}, true)
	same(t, api.Contact{Fields: full.Fields[:3]}, full, false)
	same(t, sample.Contact("A", "", "b"), sample.Contact("a", "", "b"), false)
	same(t, sample.Contact("A", "", "b"), sample.Contact("", "A", "b"), false)
	same(t, sample.Contact("A", "", "b"), sample.Contact("A", "b", ""), false)
	same(t, sample.Contact("TEL", "A;B", ""), sample.Contact("TEL", "B;A", ""), false)
	many := api.Contact{Fields: slices.Repeat(full.Fields, 1<<14)}
	same(t, many, sample.Copy(many), true)
	other := sample.Copy(many)
	other.Fields[len(other.Fields)-1].Text += "!"
	same(t, many, other, false)
}

// asked holds Get against what it must answer.
func asked(t *testing.T, c api.Contact, name, want string, wantOk bool) {
	t.Helper()
	if got, ok := contact.Get(c, name); got != want || ok != wantOk {
		t.Errorf("Get(%.300q, %q): %q and %v, not %q and %v", c, name, got, ok, want, wantOk)
	}
}

// 11.1: Get.
func TestGet(t *testing.T) {
	c := sample.Contact("FN", "", "a", "TEL", "HOME", "1", "TEL", "WORK", "2", "TITLE", "", "", "TITLE", "X", "t")
	asked(t, c, "FN", "a", true)
	asked(t, c, "TEL", "1", true)
	asked(t, c, "TITLE", "", true)
	for _, name := range []string{"", "fn", "F", "FNX", " FN", "TE", "HOME", "a", "1", "\x00", "FN\x00", strings.Repeat("TEL", 1<<16)} {
		asked(t, c, name, "", false)
	}
	for _, name := range []string{"", "FN", "TEL"} {
		asked(t, api.Contact{}, name, "", false)
		asked(t, api.Contact{Fields: []api.Field{}}, name, "", false)
		asked(t, api.Contact{Fields: c.Fields[:0]}, name, "", false)
	}
	// of any contact, whatever is wrong with it: the first one stays the first
	asked(t, sample.Contact("B", "", "2", "A", "Z", "9", "A", "B", "1", "A", "", "0"), "A", "9", true)
	asked(t, sample.Contact("B", "", "2", "", "", "x", "", "", "y"), "", "x", true)
	asked(t, sample.Contact("a b", "\x00", "\xff", "A", "", "1"), "a b", "\xff", true)
	asked(t, sample.Contact("\xff", "", "", "\xff", "", "1"), "\xff", "", true)
	many := api.Contact{Fields: slices.Repeat(c.Fields, 1<<14)}
	many.Fields = append(many.Fields, api.Field{Name: "Z", Text: "last"})
	asked(t, many, "Z", "last", true)
	asked(t, many, "Y", "", false)
	for _, b := range sample.Bytes() {
		asked(t, sample.Contact("A", "", "1", b, "", b+b, b, "", "2"), b, map[bool]string{true: "1", false: b + b}[b == "A"], true)
	}
}
