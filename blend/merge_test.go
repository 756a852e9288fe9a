package blend_test

import (
	"slices"
	"strings"
	"testing"

	"cardcase/api"
	"cardcase/blend"
	"cardcase/contact"
	"cardcase/sample"
)

// Where both sides did not agree.
type choice struct {
	base, a, b    api.Contact
	first, second api.Contact // what comes of it, by who is preferred
}

// chosen holds Merge against what comes of a choice, and of the same one with the sides changed over, with each preference.
func chosen(t *testing.T, one choice) {
	t.Helper()
	for _, prefer := range preferences {
		want, turned := one.second, one.first
		if prefer == 1 {
			want, turned = turned, want
		}
		merges(t, one.base, one.a, one.b, prefer, want)
		merges(t, one.base, one.b, one.a, prefer, turned)
		follows(t, one.base, one.a, one.b, prefer)
	}
}

// agreed holds Merge against what comes of two sides, whoever is preferred.
func agreed(t *testing.T, base, a, b, want api.Contact) {
	t.Helper()
	chosen(t, choice{base, a, b, want, want})
}

// 12.2: the sides' numbers, and the chapter's example.
func TestMergeExample(t *testing.T) {
	if blend.First != 1 || blend.Second != 0 {
		t.Errorf("First %d, Second %d", blend.First, blend.Second)
	}
	base := sample.Contact("FN", "", "a", "TEL", "", "1")
	a := sample.Contact("FN", "", "b", "TEL", "", "1")
	b := sample.Contact("FN", "", "a", "TEL", "", "1", "TEL", "", "2")
	agreed(t, base, a, b, sample.Contact("FN", "", "b", "TEL", "", "1", "TEL", "", "2"))
	b.Fields[0].Text = "c"
	chosen(t, choice{base, a, b, sample.Contact("FN", "", "b", "TEL", "", "1", "TEL", "", "2"), sample.Contact("FN", "", "c", "TEL", "", "1", "TEL", "", "2")})
}

// 12.2: base, a and b that have nothing, each and all of them.
func TestMergeEmpty(t *testing.T) {
	none, full := api.Contact{}, sample.Contact("FN", "", "a", "TEL", "", "1")
	for _, empty := range []api.Contact{{}, {Fields: []api.Field{}}, {Fields: full.Fields[:0]}} {
		agreed(t, empty, empty, empty, none)
		agreed(t, empty, full, empty, full)
		agreed(t, empty, full, full, full)
		agreed(t, full, empty, empty, none)
		agreed(t, full, full, empty, none)
		agreed(t, full, full, full, full)
	}
}

// around is a contact of some fields of a name, with fields of others, which come ahead of all such, behind all, and between.
func around(name string, of ...string) api.Contact {
	c := sample.Contact("A-", "", "first", "CC", "HOME", "x", "CC", "WORK", "x", "M", "G:", "", "ZZ", "", "last")
	for _, said := range of {
		label, text, _ := strings.Cut(said, " ")
		c.Fields = append(c.Fields, api.Field{Name: name, Label: label, Text: text})
	}
	return joined(c)
}

// 12.2: a single name that was put, changed or taken away, by one side and by both.
func TestMergeSingle(t *testing.T) {
	for _, name := range singles {
		none, old, one, other := around(name), around(name, " old"), around(name, " one"), around(name, " other")
		// put
		agreed(t, none, one, none, one)
		agreed(t, none, one, one, one)
		chosen(t, choice{none, one, other, one, other})
		// changed
		agreed(t, old, one, old, one)
		agreed(t, old, one, one, one)
		chosen(t, choice{old, one, other, one, other})
		// taken away
		agreed(t, old, none, old, none)
		agreed(t, old, none, none, none)
		// taken away by one, changed by the other
		chosen(t, choice{old, none, one, none, one})
		// what differs may be the label alone
		labelled := around(name, "X old")
		agreed(t, old, labelled, old, labelled)
		chosen(t, choice{old, labelled, none, labelled, none})
		chosen(t, choice{old, labelled, one, labelled, one})
	}
}

// 12.2: a single name of which a contact has several fields counts as a whole, though just one of them differs.
func TestMergeSingleSeveral(t *testing.T) {
	for _, name := range singles {
		base := around(name, " 1", " 2", "X 3")
		for _, a := range []api.Contact{
			around(name, " 1", " 2", "X 4"), around(name, " 1", " 2"), around(name, " 0", " 2", "X 3"), around(name, " 2", "X 3"), around(name, " 1", " 2", "X 3", "Y 4"), around(name, " 1", "X 2", "X 3"),
		} {
			agreed(t, base, a, base, a)
			agreed(t, base, a, a, a)
			for _, b := range []api.Contact{
				around(name, " 1", " 2", "X 5"), around(name, " 1", "X 3"), around(name, " 1", " 2", "W 4", "X 3"), around(name, " 9"), around(name),
			} {
				chosen(t, choice{base, a, b, a, b})
			}
		}
	}
}

// 12.2: of two single names each counts for itself, and others beside them field by field.
func TestMergeSingleApart(t *testing.T) {
	base := sample.Contact("FN", "", "old", "N", "", "old", "NOTE", "", "old", "ORG", "", "old")
	a := sample.Contact("FN", "", "one", "N", "", "one", "NOTE", "", "one", "ORG", "", "old")
	b := sample.Contact("FN", "", "old", "N", "", "other", "NOTE", "", "other", "TITLE", "", "other")
	chosen(t, choice{base, a, b,
		sample.Contact("FN", "", "one", "N", "", "one", "NOTE", "", "one", "NOTE", "", "other", "TITLE", "", "other"),
		sample.Contact("FN", "", "one", "N", "", "other", "NOTE", "", "one", "NOTE", "", "other", "TITLE", "", "other")})
	for _, one := range singles {
		for _, other := range singles {
			if one != other {
				agreed(t, sample.Contact(one, "", "x"), sample.Contact(one, "", "y"), joined(sample.Contact(one, "", "x"), sample.Contact(other, "", "x")), joined(sample.Contact(one, "", "y"), sample.Contact(other, "", "x")))
			}
		}
	}
}

// 12.2: each single name, and each other one, as any two sides may have it.
func TestMergeNames(t *testing.T) {
	for _, name := range slices.Concat(singles, manyNames) {
		var all []api.Contact
		for _, of := range [][]string{nil, {" "}, {" 1"}, {" 1", " 2"}, {" 1", "X 1"}, {" 2", "X 1"}} {
			all = append(all, around(name, of...))
		}
		for _, base := range all {
			for _, a := range all {
				for _, b := range all {
					for _, prefer := range preferences {
						mergesWords(t, base, a, b, prefer)
					}
				}
			}
		}
	}
}

// 12.2: fields of all other names, one by one.
func TestMergeOthers(t *testing.T) {
	for _, name := range manyNames {
		none, old, one, other := around(name), around(name, " old"), around(name, " one"), around(name, " other")
		// put
		agreed(t, none, one, none, one)
		agreed(t, none, one, one, one)
		agreed(t, none, one, other, around(name, " one", " other"))
		agreed(t, old, around(name, " old", " one"), around(name, " old", " other"), around(name, " old", " one", " other"))
		agreed(t, old, around(name, " old", "X old"), around(name, " old", "G: old"), around(name, " old", "X old", "G: old"))
		// changed: the old one is taken away, and one is put
		agreed(t, old, one, old, one)
		agreed(t, old, one, one, one)
		agreed(t, old, one, other, around(name, " one", " other"))
		// taken away
		agreed(t, old, none, old, none)
		agreed(t, old, none, none, none)
		agreed(t, around(name, " old", " one"), old, around(name, " old", " one"), old)
		agreed(t, around(name, " old", " one"), old, one, none)
		// taken away by one, changed by the other
		agreed(t, old, none, one, one)
		// taken away by one, and another one put by each
		agreed(t, around(name, " old", " one"), around(name, " one", " 1"), around(name, " old", " one", " 2"), around(name, " one", " 1", " 2"))
	}
	// an AGENT is a field as others, too
	old, one, other := sample.Contact("AGENT", "", agentText(1)), sample.Contact("AGENT", "", agentText(2)), sample.Contact("AGENT", "X", agentText(2))
	agreed(t, old, one, other, joined(one, other))
	agreed(t, old, joined(old, one), other, joined(one, other))
	agreed(t, joined(old, one, other), joined(old, other), one, api.Contact{})
}

// 12.2: what comes out is in order, by name, label and text, whoever put it.
func TestMergeOrder(t *testing.T) {
	a := sample.Contact("B", "", "2", "B", "A", "1", "B", "C", "1", "FN", "", "a", "NOTE", "", "\x00", "NOTE", "", "b", "Z", "", "")
	b := sample.Contact("A", "Z", "9", "B", "", "1", "B", "", "3", "B", "A", "1", "B", "B", "0", "NOTE", "", "a", "NOTE", "", "\xff", "Z", "", "", "Z", "", "\x00", "Z-", "", "")
	agreed(t, api.Contact{}, a, b, sample.Contact("A", "Z", "9", "B", "", "1", "B", "", "2", "B", "", "3", "B", "A", "1", "B", "B", "0", "B", "C", "1", "FN", "", "a", "NOTE", "", "\x00", "NOTE", "", "a", "NOTE", "", "b", "NOTE", "", "\xff", "Z", "", "", "Z", "", "\x00", "Z-", "", ""))
	var one, other, both api.Contact
	for i := range mostFields {
		f := api.Field{Name: "X" + string(rune('A'+i)), Text: "x"}
		both.Fields = append(both.Fields, f)
		if i%2 == 0 {
			one.Fields = append(one.Fields, f)
		}
		if i%3 == 0 || i%2 == 1 {
			other.Fields = append(other.Fields, f)
		}
	}
	agreed(t, api.Contact{}, one, other, both)
}

// lettered is a contact of so many fields, whose names begin with a letter.
func lettered(letter string, count int) api.Contact {
	var c api.Contact
	for i := range count {
		c.Fields = append(c.Fields, api.Field{Name: letter + string(rune('A'+i))})
	}
	return c
}

// 12.2: a merge of too many fields may not be, and the preferred one comes instead; one of as many as there may be is one.
func TestMergeFull(t *testing.T) {
	for _, most := range []struct{ base, a, b int }{{0, 1, 23}, {0, 12, 12}, {0, 23, 1}, {1, 11, 12}, {20, 2, 2}, {22, 1, 1}} {
		base := lettered("B", most.base)
		a, b := joined(base, lettered("A", most.a)), joined(base, lettered("C", most.b))
		agreed(t, base, a, b, joined(base, lettered("A", most.a), lettered("C", most.b)))
		agreed(t, base, b, a, joined(base, lettered("A", most.a), lettered("C", most.b)))
		if len(a.Fields) < mostFields {
			more := joined(a, sample.Contact("TEL", "", "1"))
			chosen(t, choice{base, more, b, more, b})
			// a single name counts as others do
			more = joined(a, sample.Contact("FN", "", "x"))
			chosen(t, choice{base, more, b, more, b})
			// the preferred one comes as a whole: with what the other one took away
			if most.base > 0 {
				less := api.Contact{Fields: slices.DeleteFunc(slices.Clone(b.Fields), func(f api.Field) bool { return f.Name == "BA" })}
				less = joined(less, sample.Contact("TEL", "", "2"))
				more = joined(a, sample.Contact("FN", "", "x", "N", "", "x"))
				if len(more.Fields) <= mostFields {
					chosen(t, choice{base, more, less, more, less})
				}
			}
		}
	}
	// the same ones put by both count once
	full := lettered("A", mostFields)
	agreed(t, api.Contact{}, full, full, full)
	agreed(t, full, full, full, full)
	chosen(t, choice{api.Contact{}, full, lettered("B", mostFields), full, lettered("B", mostFields)})
	chosen(t, choice{api.Contact{}, full, lettered("B", 1), full, lettered("B", 1)})
	// what is taken away makes room
	agreed(t, full, api.Contact{Fields: full.Fields[:23]}, joined(full, api.Contact{}), api.Contact{Fields: full.Fields[:23]})
	agreed(t, full, joined(api.Contact{Fields: full.Fields[1:]}, lettered("B", 1)), api.Contact{Fields: full.Fields[:23]}, joined(api.Contact{Fields: full.Fields[1:23]}, lettered("B", 1)))
}

// 12.2: a merge whose text is too long may not be.
func TestMergeLong(t *testing.T) {
	// The lines that each card has take 37 bytes.
	base := joined(sized("A", 604), sized("B", 604), sized("C", 604), sized("D", 604), sized("E", 604), sized("F", 604))
	left := mostCard - 37 - 6*604
	a := joined(base, sized("X", left-200))
	agreed(t, base, a, joined(base, sized("Y", 200)), joined(a, sized("Y", 200)))
	b := joined(base, sized("Y", 201))
	chosen(t, choice{base, a, b, a, b})
	b = joined(base, sized("X", 200), sized("Y", 100))
	chosen(t, choice{base, a, b, a, b})
	// single names, of which each side has one
	a, b = joined(base, sample.Contact("FN", "", strings.Repeat("v", 200))), joined(base, sample.Contact("ORG", "", strings.Repeat("v", 200)))
	chosen(t, choice{base, a, b, a, b})
	// the same one, of which the preferred one's comes
	b = joined(base, sample.Contact("FN", "", strings.Repeat("w", 200)))
	chosen(t, choice{base, a, b, a, b})
	// an AGENT, whose lines are the card's
	agent := sample.Contact("AGENT", "", agentText(2))
	room := left - len("AGENT:\r\n") - len(agentText(2))
	a, b = joined(base, sized("X", room)), joined(base, agent)
	agreed(t, base, a, b, joined(a, agent))
	a = joined(base, sized("X", room+1))
	chosen(t, choice{base, a, b, a, b})
	// too many fields, and too long
	a, b = joined(base, sized("X", 280), lettered("F", 10)), joined(base, sized("Y", 280), lettered("G", 10))
	chosen(t, choice{base, a, b, a, b})
}

// 12.2: what is wrong with base is told ahead of what is with a, and that ahead of what is with b, whatever it is, and whoever is preferred.
func TestMergeErrors(t *testing.T) {
	ones := []api.Contact{
		{}, sample.Contact("FN", "", "a", "TEL", "HOME;WORK", "1"), joined(sized("A", 604), sample.Contact("AGENT", "", agentText(2))),
		lettered("A", mostFields+1),
		sample.Contact("TEL", "", "1", "FN", "", "a"), sample.Contact("FN", "", "a", "FN", "", "a"),
		sample.Contact("FN", "B;A", ""),
		sample.Contact("FN", "", strings.Repeat("v", mostText+1)),
		sample.Contact("AGENT", "", "x"),
		sample.Contact("fn", "", ""), sample.Contact("", "", ""),
		sample.Contact("AGENT", "", agentText(3)),
		joined(sized("A", 604), sized("B", 604), sized("C", 604), sized("D", 604), sized("E", 604), sized("F", 604), sized("G", 604)),
	}
	errors := map[api.Errno]int{}
	for _, base := range ones {
		for _, a := range ones {
			for _, b := range ones {
				for _, prefer := range preferences {
					e, _ := mergesWords(t, base, a, b, prefer)
					errors[e]++
				}
			}
		}
	}
	for _, e := range []api.Errno{api.OK, api.ErrFull, api.ErrOrder, api.ErrField, api.ErrLong, api.ErrKind, api.ErrName, api.ErrDeep} {
		if errors[e] == 0 {
			t.Errorf("%v was never to be told", e)
		}
	}
	if len(errors) != 8 {
		t.Errorf("%d kinds of errors", len(errors))
	}
}

// 12.2: contacts that no writer makes, each with each: in any order, many times over, far too long, of any bytes.
func TestMergeWild(t *testing.T) {
	long := strings.Repeat("v", 1<<20)
	full := sample.Contact("FN", "", "a", "TEL", "", "1", "TEL", "X", "1")
	wild := []api.Contact{
		full, {Fields: make([]api.Field, 1<<18)}, {Fields: slices.Repeat(full.Fields, 1<<16)}, {Fields: slices.Repeat(full.Fields, 8)},
		sample.Contact(long, "", ""), sample.Contact("FN", long, ""), sample.Contact("FN", "", long), sample.Contact(long, long, long), sample.Contact("AGENT", "", long),
		sample.Contact("FN", strings.Repeat("A;", 1<<20), ""), sample.Contact("FN", strings.Repeat(":", 1<<20), ""), sample.Contact("FN", strings.Repeat("=", 1<<20), ""),
		{Fields: slices.Repeat(sample.Contact("N", long, long).Fields, mostFields)},
		sample.Contact("\xff", "\x00", "\n"), sample.Contact("FN", "\xff", "\xff"), sample.Contact("FN\r\nTEL", "", ""), sample.Contact("FN", "", "\r\nTEL:1\r\n"), sample.Contact("\xc3", "\xa9", "\xc3\xa9"),
		sample.Contact("BEGIN", "", "VCARD"), sample.Contact("END", "", "VCARD"), sample.Contact("VERSION", "", "2.1"),
		sample.Contact("AGENT", "", agentText(1)[:40]), sample.Contact("AGENT", "", agentText(3)), sample.Contact("AGENT", "", strings.Repeat("BEGIN:VCARD\r\nVERSION:2.1\r\nAGENT:\r\n", 1<<14)),
	}
	for _, base := range wild {
		for _, a := range wild {
			for _, b := range wild {
				mergesWords(t, base, a, b, blend.First)
				mergesWords(t, base, a, b, blend.Second)
			}
		}
	}
}

// 12.2: what is handed in stays as it was, and what is handed out is nobody else's.
func TestMergeApart(t *testing.T) {
	base := sample.Contact("FN", "", "a", "TEL", "", "1")
	a, b := sample.Contact("FN", "", "b", "TEL", "", "2"), sample.Contact("FN", "", "c", "TEL", "", "1", "TEL", "", "3")
	full, other := lettered("A", mostFields), lettered("B", mostFields)
	for _, three := range [][3]api.Contact{{base, a, b}, {base, base, b}, {base, a, base}, {base, base, base}, {a, b, b}, {base, full, other}, {full, full, other}, {full, a, other}, {full, full, full}, {{}, full, other}, {{}, {}, {}}, {base, a, {}}} {
		for _, prefer := range preferences {
			var roomy, before [3]api.Contact
			for i, c := range three {
				// Room behind a list is the one's who handed it in, too.
				l := append(slices.Clone(c.Fields), sample.Contact("Y", "", "mine", "A", "", "mine", "Z", "", "mine").Fields...)
				roomy[i], before[i] = api.Contact{Fields: l[:len(c.Fields)]}, api.Contact{Fields: slices.Clone(l)}
			}
			first, _ := blend.Merge(roomy[0], roomy[1], roomy[2], prefer)
			second, _ := blend.Merge(roomy[0], roomy[1], roomy[2], prefer)
			want := sample.Copy(first)
			spoil(first.Fields)
			if !contact.Same(second, want) {
				t.Errorf("two merges share a list: %q", second)
			}
			for i, c := range roomy {
				if l := c.Fields[:len(before[i].Fields)]; !slices.Equal(l, before[i].Fields) {
					t.Errorf("%q is another one now, not %q", l, before[i])
				}
			}
		}
	}
}
