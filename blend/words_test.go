package blend_test

import (
	"math"
	"slices"
	"strings"
	"testing"

	"cardcase/api"
	"cardcase/blend"
	"cardcase/contact"
	"cardcase/sample"
)

const (
	mostFields = 24
	mostText   = 600
	mostCard   = 4000
)

var (
	singles = []string{"BDAY", "FN", "N", "ORG", "REV", "TITLE"}
	// manyNames are names of which a contact may have several.
	manyNames = []string{"A", "ADR", "B", "EMAIL", "F", "FNX", "NICKNAME", "NOTE", "ORGS", "TEL", "TITL", "Z"}
	// preferences are what Merge may be asked for: the first side by the number 1 alone.
	preferences = []int{1, 0, 2, -1, 3, 200, math.MinInt, math.MaxInt}
)

// agentText is the text of a contact within which others lie, so many in all.
func agentText(count int) string {
	c := sample.Contact("FN", "", "a")
	for {
		s, e := contact.Text(c)
		if e != api.OK {
			panic(e)
		}
		if count == 1 {
			return s
		}
		c, count = sample.Contact("AGENT", "", s), count-1
	}
}

// sized is a contact of one field whose line has so many bytes, from 6 to 605.
func sized(name string, size int) api.Contact {
	// A line of a letter has 4 bytes beside its text.
	return sample.Contact(name, "", strings.Repeat("v", size-4))
}

// joined is a contact of all fields of others, in order.
func joined(l ...api.Contact) api.Contact {
	var c api.Contact
	for _, one := range l {
		c.Fields = append(c.Fields, one.Fields...)
	}
	slices.SortFunc(c.Fields, contact.Compare)
	return c
}

// changesWords is 12.1's Changes said once more: field by field.
func changesWords(a, b api.Contact) int {
	alone := func(f api.Field) bool { return !slices.Contains(a.Fields, f) || !slices.Contains(b.Fields, f) }
	count := 0
	for _, f := range slices.Concat(a.Fields, b.Fields) {
		if alone(f) {
			count++
		}
	}
	return count
}

// Who has a field.
const (
	inBase = 4
	inA    = 2
	inB    = 1
)

// othersKept tells of which who has it whether a field of a name that is not single is in the merge.
var othersKept = []bool{inB: true, inA: true, inA | inB: true, inBase: false, inBase | inB: false, inBase | inA: false, inBase | inA | inB: true}

// mergeWords is 12.2's merge said once more, whether or not it may be: field by field, by who has it and by who changed something of its name.
func mergeWords(base, a, b api.Contact, prefer int) api.Contact {
	has := map[api.Field]int{}
	for who, c := range map[int]api.Contact{inBase: base, inA: a, inB: b} {
		for _, f := range c.Fields {
			has[f] |= who
		}
	}
	changed := map[string]int{}
	for f, who := range has {
		for _, side := range []int{inA, inB} {
			if (who&inBase == 0) != (who&side == 0) {
				changed[f.Name] |= side
			}
		}
	}
	var merge api.Contact
	for f, who := range has {
		kept := othersKept[who]
		if slices.Contains(singles, f.Name) {
			side := changed[f.Name]
			switch {
			case side == 0:
				side = inBase
			case side == inA|inB && prefer == 1:
				side = inA
			case side == inA|inB:
				side = inB
			}
			kept = who&side != 0
		}
		if kept {
			merge.Fields = append(merge.Fields, f)
		}
	}
	slices.SortFunc(merge.Fields, contact.Compare)
	return merge
}

// mergesWords holds Merge against 12.2's words, and answers its error and that of the merge itself.
func mergesWords(t *testing.T, base, a, b api.Contact, prefer int) (e, merged api.Errno) {
	t.Helper()
	for _, c := range []api.Contact{base, a, b} {
		if e := contact.Check(c); e != api.OK {
			stops(t, base, a, b, prefer, e)
			return e, api.OK
		}
	}
	want := mergeWords(base, a, b, prefer)
	merged = contact.Check(want)
	if merged != api.OK {
		want = b
		if prefer == 1 {
			want = a
		}
	}
	merges(t, base, a, b, prefer, want)
	return api.OK, merged
}

// merges holds Merge against the contact that it must answer.
func merges(t *testing.T, base, a, b api.Contact, prefer int, want api.Contact) {
	t.Helper()
	c, e := blend.Merge(base, a, b, prefer)
	if e != api.OK || !slices.Equal(c.Fields, want.Fields) {
		t.Errorf("Merge(%.40q, %.40q, %.40q, %d): %.40q and %v, not %.40q", base, a, b, prefer, c, e, want)
	}
}

// stops holds Merge against an error.
func stops(t *testing.T, base, a, b api.Contact, prefer int, want api.Errno) {
	t.Helper()
	c, e := blend.Merge(base, a, b, prefer)
	if e != want || c.Fields != nil {
		t.Errorf("Merge(%.40q, %.40q, %.40q, %d): %.40q and %v, not %v", base, a, b, prefer, c, e, want)
	}
}

// follows holds Merge, of contacts that are right, against 12.3.
func follows(t *testing.T, base, a, b api.Contact, prefer int) {
	t.Helper()
	merges(t, base, base, b, prefer, b)
	merges(t, base, a, base, prefer, a)
	merges(t, base, a, a, prefer, a)
	merges(t, base, b, b, prefer, b)
	m, e := blend.Merge(base, a, b, prefer)
	if e != api.OK {
		t.Errorf("Merge(%.40q, %.40q, %.40q, %d): %v", base, a, b, prefer, e)
	}
	merges(t, base, m, m, prefer, m)
	// the merge for one of both, with the same preference
	merges(t, base, a, m, prefer, m)
	merges(t, base, m, b, prefer, m)
	// the merge preferred
	for _, c := range []api.Contact{a, b} {
		merges(t, base, m, c, blend.First, m)
		merges(t, base, c, m, blend.Second, m)
	}
}
