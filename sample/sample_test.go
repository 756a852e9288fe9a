package sample_test

import (
	"slices"
	"testing"

	"cardcase/api"
	"cardcase/sample"
)

// What the layers' tests lean on: each text is there, once.
func TestTexts(t *testing.T) {
	if got := sample.Texts("a\xff", 2); !slices.Equal(got, []string{"", "a", "\xff", "aa", "a\xff", "\xffa", "\xff\xff"}) {
		t.Errorf("two bytes, two at most: %q", got)
	}
	if got := sample.Texts("abc", 4); len(got) != 1+3+9+27+81 {
		t.Errorf("three bytes, four at most: %d texts", len(got))
	}
	if got := sample.Texts("abc", 0); !slices.Equal(got, []string{""}) {
		t.Errorf("none at most: %q", got)
	}
}

// Each byte is there, once, in order.
func TestBytes(t *testing.T) {
	all := sample.Bytes()
	if len(all) != 256 {
		t.Errorf("%d bytes", len(all))
	}
	for n, b := range all {
		if len(b) != 1 || int(b[0]) != n {
			t.Errorf("byte %d: %q", n, b)
		}
	}
}

// As many texts as are asked for, of all sizes up to the greatest, with each piece at each place; the same ones at each call.
func TestMixed(t *testing.T) {
	l := sample.Mixed(5000, 4, []string{"a", "bc", ""})
	if len(l) != 5000 || !slices.Equal(l, sample.Mixed(5000, 4, []string{"a", "bc", ""})) {
		t.Errorf("%d texts", len(l))
	}
	count := map[string]int{}
	for _, s := range sample.Mixed(20000, 3, []string{"a", "b"}) {
		count[s]++
	}
	for _, s := range sample.Texts("ab", 3) {
		if wanted := 20000 / 4 >> len(s); count[s] < wanted*4/5 || count[s] > wanted*6/5 {
			t.Errorf("%q %d times, not some %d", s, count[s], wanted)
		}
	}
	if len(count) != 1+2+4+8 {
		t.Errorf("%d kinds of texts", len(count))
	}
	if got := sample.Mixed(2, 0, []string{"a"}); !slices.Equal(got, []string{"", ""}) {
		t.Errorf("none at most: %q", got)
	}
	if got := sample.Mixed(0, 9, []string{"a"}); len(got) != 0 {
		t.Errorf("no texts: %q", got)
	}
}

// Eight bits a byte, noughts ahead, too.
func TestBits(t *testing.T) {
	for s, want := range map[string]string{"": "", "\x00": "00000000", "\x01": "00000001", "\x80": "10000000", "\xff": "11111111", "a\x12": "0110000100010010"} {
		if got := sample.Bits(s); got != want {
			t.Errorf("Bits(%q): %s, not %s", s, got, want)
		}
	}
}

// However often one goes from cards to those right within them, there are some; each call's are apart.
func TestRings(t *testing.T) {
	if len(sample.Rings()) < 10 {
		t.Errorf("%d cards", len(sample.Rings()))
	}
	for shape := range sample.Rings() {
		// Some shapes of one call are within one another.
		c := sample.Rings()[shape]
		level := map[*api.Card]int{&c: 1}
		for range 100 {
			next := map[*api.Card]int{}
			for held := range level {
				for _, p := range held.Props {
					for i := range p.Agent {
						next[&p.Agent[i]]++
					}
				}
			}
			level = next
		}
		if len(level) == 0 {
			t.Errorf("%s: no ring", shape)
		}
		clear(c.Props)
		if again := sample.Rings()[shape]; len(again.Props) == 0 || again.Props[0].Name == "" {
			t.Errorf("%s: two calls share a list", shape)
		}
	}
}

// However often one goes from elements to those right within them, there are some; each call's are apart.
func TestElemRings(t *testing.T) {
	if len(sample.ElemRings()) < 10 {
		t.Errorf("%d elements", len(sample.ElemRings()))
	}
	for shape := range sample.ElemRings() {
		// Some shapes of one call are within one another.
		e := sample.ElemRings()[shape]
		level := map[*api.Elem]int{&e: 1}
		for range 100 {
			next := map[*api.Elem]int{}
			for held := range level {
				for i := range held.Kids {
					next[&held.Kids[i]]++
				}
				if held.Name == "" {
					t.Errorf("%s: an element without a name", shape)
				}
			}
			level = next
		}
		if len(level) == 0 {
			t.Errorf("%s: no ring", shape)
		}
		clear(e.Kids)
		if again := sample.ElemRings()[shape]; len(again.Kids) == 0 || again.Kids[0].Name == "" {
			t.Errorf("%s: two calls share a list", shape)
		}
	}
}

// What letters say is there, in its place.
func TestElem(t *testing.T) {
	for letters, want := range map[string]api.Elem{
		"":             {Name: "Sync"},
		"x":            {Name: "Sync", Text: "X"},
		"A":            sample.Node(0, "Sync", sample.Leaf(0, "Add", "")),
		"AB.C..D":      sample.Node(0, "Sync", sample.Node(0, "Add", sample.Leaf(0, "Size", ""), sample.Leaf(0, "Last", "")), sample.Leaf(0, "DevID", "")),
		"....A":        sample.Node(0, "Sync", sample.Leaf(0, "Add", "")),
		"pEv.Fpn<o":    sample.Node(1, "Sync", sample.Leaf(1, "Private", "Private"), sample.Holder(2, "Xn", "<")),
		"ppp\x00o\xff": {Name: "Sync", Text: "\x00\xff", Opaque: true},
		"o":            {Name: "Sync"},
	} {
		if got := sample.Elem(letters); !sample.SameElem(got, want) {
			t.Errorf("%q: %v, not %v", letters, got, want)
		}
	}
	if got := sample.Elem("z"); len(got.Text) != 130 {
		t.Errorf("a long text: %v", got)
	}
}

// Elements of each page, with and without a text and kids, and the same ones at each call.
func TestElems(t *testing.T) {
	l := sample.Elems(400)
	if len(l) < 400 || !slices.EqualFunc(l, sample.Elems(400), sample.SameElem) {
		t.Errorf("%d elements", len(l))
	}
	texts, held, bare, deep := 0, 0, 0, 0
	for _, e := range l {
		for _, kid := range e.Kids {
			switch {
			case len(kid.Kids) > 0:
				deep++
			case kid.Opaque:
				held++
			case kid.Text != "":
				texts++
			default:
				bare++
			}
		}
	}
	if min(texts, held, bare, deep) < 40 {
		t.Errorf("just %d texts, %d of bytes, %d with nothing, %d with kids", texts, held, bare, deep)
	}
}

// Two elements are the same if nothing is another one; a copy shares nothing.
func TestSameElem(t *testing.T) {
	e := sample.Node(1, "A", sample.Holder(2, "B", "b"), sample.Leaf(0, "C", ""))
	for what, change := range map[string]func(e *api.Elem){
		"a page": func(e *api.Elem) { e.Page++ }, "a name": func(e *api.Elem) { e.Name = "D" }, "a text": func(e *api.Elem) { e.Text += "d" },
		"Opaque": func(e *api.Elem) { e.Opaque = !e.Opaque }, "a kid": func(e *api.Elem) { e.Kids = append(e.Kids, api.Elem{}) },
	} {
		for at := range 3 {
			other := sample.CopyElem(e)
			if !sample.SameElem(e, other) {
				t.Fatalf("%v is not %v", other, e)
			}
			places := []*api.Elem{&other, &other.Kids[0], &other.Kids[1]}
			change(places[at])
			if sample.SameElem(e, other) || sample.SameElem(other, e) {
				t.Errorf("%s, %d: %v is %v", what, at, other, e)
			}
		}
	}
	if e.Kids[0].Name != "B" || len(e.Kids[1].Kids) > 0 {
		t.Errorf("a copy shares a list: %v", e)
	}
}

// As many lie within one another as are asked for, the kids within the innermost.
func TestNest(t *testing.T) {
	kid := sample.Leaf(2, "K", "k")
	if got := sample.Nest(1, kid, kid); !sample.SameElem(got, sample.Node(0, "Add", kid, kid)) {
		t.Errorf("one: %v", got)
	}
	if got := sample.Nest(3, kid); !sample.SameElem(got, sample.Node(0, "Add", sample.Node(0, "Add", sample.Node(0, "Add", kid)))) {
		t.Errorf("three: %v", got)
	}
}

// There are some with each error that tree.Check has; each call's are apart.
func TestWrongElems(t *testing.T) {
	count := map[api.Errno]int{}
	for what, one := range sample.WrongElems() {
		count[one.Wrong]++
		clear(one.Elem.Kids)
		if again := sample.WrongElems()[what].Elem; len(again.Kids) > 0 && again.Kids[0].Name == "" {
			t.Errorf("%s: two calls share a list", what)
		}
	}
	for _, wrong := range []api.Errno{api.ErrDeep, api.ErrFull, api.ErrKind, api.ErrName, api.ErrState, api.ErrLong, api.ErrField} {
		if count[wrong] == 0 {
			t.Errorf("none with %v", wrong)
		}
	}
}

// Three texts a field, in their order.
func TestContact(t *testing.T) {
	if c := sample.Contact(); len(c.Fields) != 0 {
		t.Errorf("of no texts: %q", c)
	}
	c := sample.Contact("B", "", "\xff", "A", "x", "")
	if !slices.Equal(c.Fields, []api.Field{{Name: "B", Text: "\xff"}, {Name: "A", Label: "x"}}) {
		t.Errorf("of six texts: %q", c)
	}
	other := sample.Copy(c)
	if !slices.Equal(other.Fields, c.Fields) {
		t.Errorf("the copy of %q: %q", c, other)
	}
	other.Fields[0].Name = "C"
	if c.Fields[0].Name != "B" {
		t.Error("a contact and its copy share a list")
	}
}
