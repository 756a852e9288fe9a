package blend_test

import (
	"slices"
	"strconv"
	"strings"
	"testing"

	"cardcase/api"
	"cardcase/blend"
	"cardcase/sample"
)

// single holds Single against what it must answer.
func single(t *testing.T, name string, want bool) {
	t.Helper()
	if got := blend.Single(name); got != want {
		t.Errorf("Single(%.300q): %v", name, got)
	}
}

// 12.1: the six names, and all that is near them.
func TestSingle(t *testing.T) {
	single(t, "", false)
	for _, name := range singles {
		single(t, name, true)
		single(t, strings.ToLower(name), false)
		single(t, name+name, false)
		single(t, strings.Repeat(name, 1<<18), false)
		for i := range name {
			single(t, name[:i]+strings.ToLower(name[i:i+1])+name[i+1:], false)
			if less := name[:i] + name[i+1:]; less != "N" {
				single(t, less, false)
			}
			for _, b := range sample.Bytes() {
				single(t, name[:i]+b+name[i+1:], slices.Contains(singles, name[:i]+b+name[i+1:]))
				single(t, name[:i]+b+name[i:], name == "N" && b == "F")
				single(t, name+b, false)
			}
		}
	}
	for _, name := range manyNames {
		single(t, name, false)
	}
	for _, name := range []string{"BEGIN", "END", "VERSION", "TEL;FN", "FN:", ":FN", "BDAY FN", "N,FN", "BDAYFNNORGREVTITLE", "ＦＮ", "\xff", "\x00"} {
		single(t, name, false)
	}
}

// 12.1: all texts of up to four of the letters that the shorter names have.
func TestSingleMany(t *testing.T) {
	for _, name := range sample.Texts("ABDEFGNORVYn", 4) {
		single(t, name, slices.Contains(singles, name))
	}
}

// named holds Named against what it must answer.
func named(t *testing.T, c api.Contact, name string, want ...api.Field) {
	t.Helper()
	if got := blend.Named(c, name); !slices.Equal(got, want) {
		t.Errorf("Named(%.300q, %q): %.300q, not %.300q", c, name, got, want)
	}
}

// 12.1: none of a name, one, and several with others between, in the order in which they stand.
func TestNamed(t *testing.T) {
	c := sample.Contact("TEL", "Z", "9", "FN", "", "a", "TEL", "", "", "", "", "none", "TEL", "Z", "9", "\xff", "\x00", "\n", "TEL", "A", "1")
	named(t, c, "FN", c.Fields[1])
	named(t, c, "TEL", c.Fields[0], c.Fields[2], c.Fields[4], c.Fields[6])
	named(t, c, "", c.Fields[3])
	named(t, c, "\xff", c.Fields[5])
	for _, name := range []string{"tel", "TE", "TELE", "F", "A", "Z", "9", "none", "\n", "\x00", " FN", strings.Repeat("TEL", 1<<16)} {
		named(t, c, name)
	}
	for _, name := range []string{"", "FN", "TEL"} {
		named(t, api.Contact{}, name)
		named(t, api.Contact{Fields: []api.Field{}}, name)
		named(t, api.Contact{Fields: c.Fields[:0]}, name)
	}
	all := sample.Contact("N", "", "a", "N", "", "b", "N", "X", "a")
	named(t, all, "N", all.Fields...)
	many := api.Contact{Fields: slices.Repeat(c.Fields, 1<<14)}
	named(t, many, "FN", slices.Repeat(c.Fields[1:2], 1<<14)...)
	named(t, many, "NOTE")
}

// 12.1: what Named hands out is nobody else's.
func TestNamedApart(t *testing.T) {
	c := sample.Contact("TEL", "", "1", "TEL", "", "2", "FN", "", "a")
	before := sample.Copy(c)
	for _, name := range []string{"TEL", "FN", "N"} {
		first, second := blend.Named(c, name), blend.Named(c, name)
		spoil(first)
		named(t, api.Contact{Fields: second}, name, blend.Named(before, name)...)
	}
	if !slices.Equal(c.Fields, before.Fields) {
		t.Errorf("%q is another one now, not %q", c, before)
	}
}

// spoil overwrites a list, with all the room that it has.
func spoil(l []api.Field) {
	l = l[:cap(l)]
	for i := range l {
		l[i] = api.Field{Name: "spoilt"}
	}
}

// changes holds Changes, of both orders, against what it must answer.
func changes(t *testing.T, a, b api.Contact, want int) {
	t.Helper()
	if got := blend.Changes(a, b); got != want {
		t.Errorf("Changes(%.300q, %.300q): %d, not %d", a, b, got, want)
	}
	if got := blend.Changes(b, a); got != want {
		t.Errorf("Changes(%.300q, %.300q): %d, not %d", b, a, got, want)
	}
}

// 12.1: how many fields are in one alone.
func TestChanges(t *testing.T) {
	none, empty := api.Contact{}, api.Contact{Fields: []api.Field{}}
	changes(t, none, none, 0)
	changes(t, none, empty, 0)
	changes(t, none, api.Contact{Fields: []api.Field{{}}}, 1)
	c := sample.Contact("FN", "", "a", "TEL", "HOME", "1", "TEL", "WORK", "1")
	changes(t, c, c, 0)
	changes(t, c, sample.Copy(c), 0)
	changes(t, c, none, 3)
	changes(t, c, empty, 3)
	// one that differs in just one thing is in both alone
	for i := range c.Fields {
		for _, how := range []func(f *api.Field){
			func(f *api.Field) { f.Name += "X" }, func(f *api.Field) { f.Label += "X" }, func(f *api.Field) { f.Text += "X" },
			func(f *api.Field) { f.Name = "" }, func(f *api.Field) { f.Label = ";" }, func(f *api.Field) { f.Text = "" },
		} {
			other := sample.Copy(c)
			how(&other.Fields[i])
			changes(t, c, other, 2)
		}
		changes(t, c, api.Contact{Fields: slices.Delete(slices.Clone(c.Fields), i, i+1)}, 1)
	}
	changes(t, sample.Contact("A", "B", "C"), sample.Contact("AB", "", "C"), 2)
	changes(t, sample.Contact("A", "B", ""), sample.Contact("A", "", "B"), 2)
	changes(t, sample.Contact("fn", "", "a"), sample.Contact("FN", "", "a"), 2)
	// the order makes no difference
	changes(t, c, sample.Contact("TEL", "WORK", "1", "TEL", "HOME", "1", "FN", "", "a"), 0)
	changes(t, c, sample.Contact("TEL", "WORK", "1", "TEL", "HOME", "2", "FN", "", "a"), 2)
}

// 12.1: a field that is there more than once: each of them is in both, or in one alone.
func TestChangesTwice(t *testing.T) {
	once, twice := sample.Contact("A", "", "1"), sample.Contact("A", "", "1", "A", "", "1")
	changes(t, twice, once, 0)
	changes(t, twice, twice, 0)
	changes(t, twice, api.Contact{}, 2)
	changes(t, twice, sample.Contact("B", "", "1"), 3)
	changes(t, sample.Contact("A", "", "1", "B", "", "", "A", "", "1"), once, 1)
	changes(t, sample.Contact("A", "", "1", "B", "", "", "A", "", "1"), sample.Contact("B", "", "", "B", "", "", "C", "", ""), 3)
	changes(t, sample.Contact("A", "", "1", "A", "", "1", "A", "", "1"), sample.Contact("A", "", "2", "A", "", "2"), 5)
}

// 12.1: all lists of up to three of some fields, in each order and as often as it may be.
func TestChangesMany(t *testing.T) {
	var all []api.Contact
	three := []api.Field{{Name: "A", Text: "1"}, {Name: "A", Text: "2"}, {Label: "A", Text: "1"}}
	for _, s := range sample.Texts("012", 3) {
		var c api.Contact
		for _, place := range s {
			c.Fields = append(c.Fields, three[place-'0'])
		}
		all = append(all, c)
	}
	for _, a := range all {
		for _, b := range all {
			changes(t, a, b, changesWords(a, b))
		}
	}
}

// 12.1: lists that are far too long end soon.
func TestChangesLong(t *testing.T) {
	const count = 1 << 17
	var a, b api.Contact
	for i := range count {
		a.Fields = append(a.Fields, api.Field{Name: "A", Text: strconv.Itoa(i)})
		b.Fields = append(b.Fields, api.Field{Name: "A", Text: strconv.Itoa(count - i)})
	}
	changes(t, a, b, 2)
	changes(t, a, a, 0)
	changes(t, a, api.Contact{}, count)
	same := api.Contact{Fields: make([]api.Field, count)}
	changes(t, a, same, 2*count)
	changes(t, same, same, 0)
	changes(t, same, api.Contact{Fields: same.Fields[:1]}, 0)
	long := strings.Repeat("v", 1<<24)
	changes(t, sample.Contact("A", long, long), sample.Contact("A", long, long[1:]), 2)
	changes(t, sample.Contact(long, long, long), sample.Contact(long, long, strings.Clone(long)), 0)
}
