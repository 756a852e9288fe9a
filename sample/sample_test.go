package sample_test

import (
	"slices"
	"testing"

	"cardcase/api"
	"cardcase/sample"
)

// What the layers' tests lean on: each text is there, once.
func TestTexts(t *testing.T) {
	if got := sample.Texts("a\xff", 2); !slices.Equal(got, []string{"", "a", "\xff", "aa", "a\xff", "\xffa", "\xff\xff"}) {
		t.Errorf("two bytes, two at most: %q", got)
	}
	if got := sample.Texts("abc", 4); len(got) != 1+3+9+27+81 {
		t.Errorf("three bytes, four at most: %d texts", len(got))
	}
	if got := sample.Texts("abc", 0); !slices.Equal(got, []string{""}) {
		t.Errorf("none at most: %q", got)
	}
}

// Each byte is there, once, in order.
func TestBytes(t *testing.T) {
	all := sample.Bytes()
	if len(all) != 256 {
		t.Errorf("%d bytes", len(all))
	}
	for n, b := range all {
		if len(b) != 1 || int(b[0]) != n {
			t.Errorf("byte %d: %q", n, b)
		}
	}
}

// As many texts as are asked for, of all sizes up to the greatest, with each piece at each place; the same ones at each call.
func TestMixed(t *testing.T) {
	l := sample.Mixed(5000, 4, []string{"a", "bc", ""})
	if len(l) != 5000 || !slices.Equal(l, sample.Mixed(5000, 4, []string{"a", "bc", ""})) {
		t.Errorf("%d texts", len(l))
	}
	count := map[string]int{}
	for _, s := range sample.Mixed(20000, 3, []string{"a", "b"}) {
		count[s]++
	}
	for _, s := range sample.Texts("ab", 3) {
		if wanted := 20000 / 4 >> len(s); count[s] < wanted*4/5 || count[s] > wanted*6/5 {
			t.Errorf("%q %d times, not some %d", s, count[s], wanted)
		}
	}
	if len(count) != 1+2+4+8 {
		t.Errorf("%d kinds of texts", len(count))
	}
	if got := sample.Mixed(2, 0, []string{"a"}); !slices.Equal(got, []string{"", ""}) {
		t.Errorf("none at most: %q", got)
	}
	if got := sample.Mixed(0, 9, []string{"a"}); len(got) != 0 {
		t.Errorf("no texts: %q", got)
	}
}

// Eight bits a byte, noughts ahead, too.
func TestBits(t *testing.T) {
	for s, want := range map[string]string{"": "", "\x00": "00000000", "\x01": "00000001", "\x80": "10000000", "\xff": "11111111", "a\x12": "0110000100010010"} {
		if got := sample.Bits(s); got != want {
			t.Errorf("Bits(%q): %s, not %s", s, got, want)
		}
	}
}

// However often one goes from cards to those right within them, there are some; each call's are apart.
func TestRings(t *testing.T) {
	if len(sample.Rings()) < 10 {
		t.Errorf("%d cards", len(sample.Rings()))
	}
	for shape := range sample.Rings() {
		// Some shapes of one call are within one another.
		c := sample.Rings()[shape]
		level := map[*api.Card]int{&c: 1}
		for range 100 {
			next := map[*api.Card]int{}
			for held := range level {
				for _, p := range held.Props {
					for i := range p.Agent {
						next[&p.Agent[i]]++
					}
				}
			}
			level = next
		}
		if len(level) == 0 {
			t.Errorf("%s: no ring", shape)
		}
		clear(c.Props)
		if again := sample.Rings()[shape]; len(again.Props) == 0 || again.Props[0].Name == "" {
			t.Errorf("%s: two calls share a list", shape)
		}
	}
}

// However often one goes from elements to those right within them, there are some; each call's are apart.
func TestElemRings(t *testing.T) {
	if len(sample.ElemRings()) < 10 {
		t.Errorf("%d elements", len(sample.ElemRings()))
	}
	for shape := range sample.ElemRings() {
		// Some shapes of one call are within one another.
		e := sample.ElemRings()[shape]
		level := map[*api.Elem]int{&e: 1}
		for range 100 {
			next := map[*api.Elem]int{}
			for held := range level {
				for i := range held.Kids {
					next[&held.Kids[i]]++
				}
				if held.Name == "" {
					t.Errorf("%s: an element without a name", shape)
				}
			}
			level = next
		}
		if len(level) == 0 {
			t.Errorf("%s: no ring", shape)
		}
		clear(e.Kids)
		if again := sample.ElemRings()[shape]; len(again.Kids) == 0 || again.Kids[0].Name == "" {
			t.Errorf("%s: two calls share a list", shape)
		}
	}
}

// Three texts a field, in their order.
func TestContact(t *testing.T) {
	if c := sample.Contact(); len(c.Fields) != 0 {
		t.Errorf("of no texts: %q", c)
	}
	c := sample.Contact("B", "", "\xff", "A", "x", "")
	if !slices.Equal(c.Fields, []api.Field{{Name: "B", Text: "\xff"}, {Name: "A", Label: "x"}}) {
		t.Errorf("of six texts: %q", c)
	}
	other := sample.Copy(c)
	if !slices.Equal(other.Fields, c.Fields) {
		t.Errorf("the copy of %q: %q", c, other)
	}
	other.Fields[0].Name = "C"
	if c.Fields[0].Name != "B" {
		t.Error("a contact and its copy share a list")
	}
}
