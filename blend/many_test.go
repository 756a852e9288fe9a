package blend_test

import (
	"slices"
	"strings"
	"testing"

	"cardcase/api"
	"cardcase/blend"
	"cardcase/sample"
)

// 12.2 and 12.3: all contacts of some fields, each with each.
func TestMergeSubsets(t *testing.T) {
	fields := sample.Contact("FN", "", "a", "FN", "", "b", "N", "", "a", "TEL", "", "a", "TEL", "X", "a").Fields
	var all []api.Contact
	for bits := range 1 << len(fields) {
		var c api.Contact
		for i, f := range fields {
			if bits>>i&1 == 1 {
				c.Fields = append(c.Fields, f)
			}
		}
		all = append(all, c)
	}
	for i, base := range all {
		for j, a := range all {
			for k, b := range all {
				mergesWords(t, base, a, b, blend.First)
				mergesWords(t, base, a, b, blend.Second)
				if (i+j+k)%16 == 0 {
					follows(t, base, a, b, blend.First)
					follows(t, base, a, b, blend.Second)
				}
			}
		}
	}
}

// shortFields are fields of all kinds of names, so many that too many of them may be put.
func shortFields() []api.Field {
	var l []api.Contact
	for _, name := range singles {
		l = append(l, sample.Contact(name, "", "a", name, "G:X", ""))
	}
	for _, name := range manyNames {
		l = append(l, sample.Contact(name, "", "a", name, "", "b", name, "HOME;WORK", "\xff"))
	}
	return joined(append(l, sample.Contact("AGENT", "", agentText(1), "AGENT", "X", agentText(2)))...).Fields
}

// longFields are fields of all kinds of names, so long that too long ones may be put.
func longFields() []api.Field {
	long := strings.Repeat("v", 500)
	l := []api.Contact{sample.Contact("AGENT", "", agentText(1), "AGENT", "", agentText(2), "AGENT", "X", agentText(2))}
	for _, name := range slices.Concat(singles, manyNames[:8]) {
		l = append(l, sample.Contact(name, "", long))
	}
	return joined(l...).Fields
}

// three are contacts of some of these fields: a digit tells of each, by its bits, who has it.
func three(fields []api.Field, digits string) [3]api.Contact {
	var l [3]api.Contact
	for i := range min(len(digits), len(fields)) {
		for who := range l {
			if (digits[i]-'0')>>who&1 == 1 {
				l[who].Fields = append(l[who].Fields, fields[i])
			}
		}
	}
	return l
}

// 12.2 and 12.3: many contacts, in which most is as it was, or most is not.
func TestMergeMany(t *testing.T) {
	merged := map[api.Errno]int{}
	for _, fields := range [][]api.Field{shortFields(), longFields()} {
		for _, digits := range [][]string{
			{"7", "0", "0", "1", "2", "3", "4", "5", "6"},
			{"7", "7", "0", "0", "0", "0", "2", "4", "2", "4"},
			{"7", "7", "7", "0", "0", "0", "0", "1", "2", "3", "4", "5", "6"},
			{"0", "0", "0", "0", "0", "1", "2", "7"},
		} {
			for _, said := range sample.Mixed(150, 3*len(fields), digits) {
				l := three(fields, said)
				for _, prefer := range []int{blend.First, blend.Second} {
					e, cause := mergesWords(t, l[0], l[1], l[2], prefer)
					if e != api.OK {
						continue
					}
					merged[cause]++
					follows(t, l[0], l[1], l[2], prefer)
				}
			}
		}
	}
	// No other error may come of fields each of which may be, in order, each once.
	for _, e := range []api.Errno{api.OK, api.ErrFull, api.ErrLong} {
		if merged[e] < 50 {
			t.Errorf("%d merges were %v", merged[e], e)
		}
	}
	if len(merged) != 3 {
		t.Errorf("%d kinds of merges: %v", len(merged), merged)
	}
}
