package vcard_test

import (
	"runtime/debug"
	"slices"
	"strings"
	"testing"

	"cardcase/api"
	"cardcase/sample"
	"cardcase/vcard"
)

// deep holds Deep against what it must answer.
func deep(t *testing.T, what string, c api.Card, want int) {
	t.Helper()
	if got := vcard.Deep(c); got != want {
		t.Errorf("Deep of %s: %d, not %d", what, got, want)
	}
}

// within is a property, of a name, with cards.
func within(name string, l ...api.Card) api.Prop { return api.Prop{Name: name, Agent: l} }

// 10.1: Deep.
func TestDeep(t *testing.T) {
	deep(t, "nothing", api.Card{}, 1)
	deep(t, "no properties", api.Card{Props: []api.Prop{}}, 1)
	deep(t, "properties", card(plain("FN", "a"), plain("TEL", "1")), 1)
	deep(t, "AGENT without a card", card(plain("AGENT", ""), plain("AGENT", "BEGIN:VCARD"), api.Prop{Name: "AGENT", Agent: []api.Card{}}), 1)
	for count := 1; count <= 30; count++ {
		deep(t, "cards within one another", nested(count), min(count, 9))
		deep(t, "cards within one another, the last with properties", nested(count, filled(30).Props...), min(count, 9))
		deep(t, "cards behind others", card(agent(), plain("A", ""), agent(nested(count).Props...), agent(agent())), min(max(count+1, 3), 9))
	}
	for _, count := range []int{100, 1000, 1 << 18} {
		deep(t, "very many cards within one another", nested(count), 9)
	}
	for _, l := range [][]api.Card{{{}, {}}, {{}, {}, {}}, make([]api.Card, 1<<18)} {
		deep(t, "an Agent of several cards", card(within("AGENT", l...)), 2)
	}
	deep(t, "an Agent whose last card is deeper", card(within("AGENT", card(), card(agent()), nested(5))), 6)
	deep(t, "an Agent whose first card is deeper", card(within("AGENT", nested(7), card(), card(agent()))), 8)
	deep(t, "an Agent whose middle card is deeper", card(within("AGENT", nested(2), nested(8), nested(3))), 9)
	// of any card, whatever is wrong with it
	deep(t, "a property of another name with a card", card(within("FN", nested(2))), 3)
	deep(t, "a property without a name with a card", card(within("", nested(3))), 4)
	deep(t, "AGENT with a value, too", card(api.Prop{Name: "AGENT", Value: "v", Agent: []api.Card{{}}}), 2)
	for _, one := range faults() {
		if len(one.p.Agent) == 0 {
			deep(t, "a property that may not be", card(one.p), 1)
			deep(t, "a property that may not be, within", nested(4, one.p), 4)
		}
	}
	for _, c := range mixedCards(2000) {
		deep(t, "a card", c, deepWords(c, 9))
	}
	for shape, c := range sample.Rings() {
		deep(t, shape, c, 9)
	}
}

// refused holds Check and Print against what they must answer of a card that is too deep to be told.
func refused(t *testing.T, what string, c api.Card) {
	t.Helper()
	if e := vcard.Check(c); e != api.ErrDeep {
		t.Errorf("Check of %s: %v", what, e)
	}
	if s, e := vcard.Print(c); s != "" || e != api.ErrDeep {
		t.Errorf("Print of %s: %q and %v", what, s, e)
	}
}

// P1 and 10.1: cards that lie within themselves: every call ends.
func TestRings(t *testing.T) {
	for shape, c := range sample.Rings() {
		refused(t, shape, c)
		refused(t, "a card with "+shape, card(plain("FN", "a"), within("AGENT", c)))
		for _, other := range sample.Rings() {
			if vcard.Same(c, other) || vcard.Same(other, c) {
				t.Errorf("Same of %s: true", shape)
			}
		}
		for _, other := range []api.Card{{}, nested(9), nested(10), c} {
			if vcard.Same(c, other) || vcard.Same(other, c) {
				t.Errorf("Same of %s and another: true", shape)
			}
		}
	}
}

// doubled is a card that holds one list twice, whose card holds one list twice, and so on: so many cards within one another.
func doubled(count int, l ...api.Prop) api.Card {
	c := card(l...)
	for range count - 1 {
		one := []api.Card{c}
		c = card(slices.Repeat([]api.Prop{{Name: "AGENT", Agent: one}}, 60)...)
	}
	return c
}

// windows is a list of very many cards, each of which holds what of another list stands behind it, or ahead of it, down to a last list; how many cards lie within one another is told, too.
func windows(count, size int) (api.Card, int) {
	last := make([]api.Card, size)
	for range count {
		held := make([]api.Card, size)
		all := make([]api.Prop, 3*size)
		for i := range held {
			all[3*i].Agent = last[i:]
			all[3*i+1].Agent = last[:i+1]
			all[3*i+2].Agent = last[i/2 : (i+size+1)/2]
			held[i].Props = all[i : 2*i+1]
		}
		last = held
	}
	return card(api.Prop{Name: "AGENT", Agent: last}), count + 2
}

// P1 and 10.1: lists that stand in more places than anybody can go through: every call ends.
func TestManyPlaces(t *testing.T) {
	for count := 1; count <= 40; count++ {
		c, same := doubled(count, plain("A", "b")), doubled(count, plain("A", "b"))
		deep(t, "lists that stand twice", c, min(count, 9))
		if got := vcard.Same(c, same); got != (count <= 9) {
			t.Errorf("Same of %d cards within one another, 60 times each: %v", count, got)
		}
		if vcard.Same(c, doubled(count, plain("A", "c"))) || vcard.Same(c, doubled(count+1, plain("A", "b"))) {
			t.Errorf("Same of %d cards within one another, 60 times each, and others: true", count)
		}
		if got := vcard.Same(c, c); got != (count <= 9) {
			t.Errorf("Same of %d cards within one another, and of that card: %v", count, got)
		}
	}
	for count := range 9 {
		c, want := windows(count, 30)
		other, _ := windows(count, 30)
		deep(t, "lists that stand in pieces", c, min(want, 9))
		if got := vcard.Same(c, other); got != (want <= 9) {
			t.Errorf("Same of %d cards within one another, in pieces: %v", want, got)
		}
	}
	const many = 1 << 16
	c, want := windows(3, many)
	deep(t, "very long lists that stand in pieces", c, want)
	if !vcard.Same(c, c) {
		t.Error("Same of very long lists in pieces: false")
	}
}

// P1 and 10.1: no call needs more stack, the deeper cards lie within one another.
func TestVeryDeep(t *testing.T) {
	defer debug.SetMaxStack(debug.SetMaxStack(1 << 20))
	c := nested(1<<18, plain("A", "b"))
	deep(t, "very many cards", c, 9)
	refused(t, "very many cards", c)
	refused(t, "very many cards twice", card(plain("A", ""), within("B", c, c)))
	if vcard.Same(c, c) || vcard.Same(c, card()) || vcard.Same(card(), c) || vcard.Same(c, nested(1<<18, plain("A", "b"))) {
		t.Error("Same of very many cards: true")
	}
}

// same holds Same, of both orders, against what it must answer.
func same(t *testing.T, a, b api.Card, want bool) {
	t.Helper()
	if got := vcard.Same(a, b); got != want {
		t.Errorf("Same(%.300q, %.300q): %v", a, b, got)
	}
	if got := vcard.Same(b, a); got != want {
		t.Errorf("Same(%.300q, %.300q): %v", b, a, got)
	}
}

// changed are cards that differ from one in just one thing, at each thing, within Agents, too.
func changed(c api.Card) []api.Card {
	var l []api.Card
	// A change is made to a copy of the card, with the property at a place.
	at := func(i int, change func(p *api.Prop)) {
		other := copyOf(c)
		change(&other.Props[i])
		l = append(l, other)
	}
	for i := range len(c.Props) + 1 {
		other := copyOf(c)
		other.Props = slices.Insert(other.Props, i, api.Prop{})
		l = append(l, other)
	}
	for i, p := range c.Props {
		other := copyOf(c)
		other.Props = slices.Delete(other.Props, i, i+1)
		l = append(l, other)
		for j := range i {
			if !alikeProps(c.Props[j], p) {
				other := copyOf(c)
				other.Props[i], other.Props[j] = other.Props[j], other.Props[i]
				l = append(l, other)
			}
		}
		at(i, func(p *api.Prop) { p.Group += "X" })
		at(i, func(p *api.Prop) { p.Name += "X" })
		at(i, func(p *api.Prop) { p.Value += "\x00" })
		at(i, func(p *api.Prop) { p.Params = append(p.Params, api.Param{}) })
		at(i, func(p *api.Prop) { p.Params = append(params("", ""), p.Params...) })
		for j := range p.Params {
			at(i, func(p *api.Prop) { p.Params[j].Name += "X" })
			at(i, func(p *api.Prop) { p.Params[j].Value += "x" })
			at(i, func(p *api.Prop) { p.Params = slices.Delete(p.Params, j, j+1) })
		}
		at(i, func(p *api.Prop) { p.Agent = append(p.Agent, api.Card{}) })
		at(i, func(p *api.Prop) { p.Agent = append([]api.Card{{}, card(plain("A", ""))}, p.Agent...) })
		for j, within := range p.Agent {
			at(i, func(p *api.Prop) { p.Agent = slices.Delete(p.Agent, j, j+1) })
			for _, other := range changed(within) {
				at(i, func(p *api.Prop) { p.Agent[j] = other })
			}
		}
	}
	return l
}

// 10.1: Same.
func TestSame(t *testing.T) {
	full := card(
		api.Prop{Group: "G", Name: "N", Params: params("A", "b", "", "C", "D", "e"), Value: "v"},
		plain("FN", "a"),
		api.Prop{Name: "AGENT", Params: params("", "X"), Agent: []api.Card{card(plain("FN", "b"), agent(plain("FN", "c"), api.Prop{Group: "H", Name: "TEL", Params: params("", "Y"), Value: "\xff"}))}},
		api.Prop{Name: "OTHER", Value: "v", Agent: []api.Card{{}, card(plain("A", "1")), nested(3)}},
		plain("", ""),
	)
	all := append(changed(full), full)
	if len(all) < 60 {
		t.Errorf("%d cards", len(all))
	}
	for i, a := range all {
		for j, b := range all {
			if want := alike(a, b); want != vcard.Same(a, b) {
				t.Errorf("Same(%q, %q): %v", a, b, !want)
			} else if want && i != j && (i == len(all)-1 || j == len(all)-1) {
				t.Errorf("%q is no other card", a)
			}
		}
		same(t, a, copyOf(a), true)
	}
	// nil and empty lists
	for _, one := range [][2]api.Card{
		{card(), {Props: []api.Prop{}}},
		{card(plain("A", "b")), card(api.Prop{Name: "A", Value: "b", Params: []api.Param{}, Agent: []api.Card{}})},
		{card(agent()), card(within("AGENT", api.Card{Props: []api.Prop{}}))},
	} {
		same(t, one[0], one[1], true)
		same(t, card(agent(one[0].Props...)), card(within("AGENT", one[1])), true)
	}
	same(t, card(), card(api.Prop{}), false)
	same(t, card(plain("A", "")), card(api.Prop{Name: "A", Agent: []api.Card{{}}}), false)
	same(t, card(plain("A", "b")), card(plain("a", "b")), false)
	same(t, card(plain("A", "b")), card(plain("A", "B")), false)
	same(t, card(plain("A", "b"), plain("C", "d")), card(plain("C", "d"), plain("A", "b")), false)
	same(t, card(api.Prop{Group: "A", Name: "B"}), card(api.Prop{Group: "B", Name: "A"}), false)
	same(t, card(api.Prop{Params: params("A", "b", "C", "d")}), card(api.Prop{Params: params("C", "d", "A", "b")}), false)
	same(t, card(api.Prop{Params: params("A", "")}), card(api.Prop{Params: params("", "A")}), false)
	same(t, card(plain("A", "\xff")), card(plain("A", "\xfe")), false)
	same(t, card(plain("A", "é")), card(plain("A", "e\u0301")), false)
	same(t, card(plain("A", strings.Repeat("v", 1<<20)+"a")), card(plain("A", strings.Repeat("v", 1<<20)+"b")), false)
	// one list, at places at which the other card has different ones
	one := []api.Card{card(plain("A", "1"))}
	same(t, card(within("AGENT", one...), within("AGENT", one...)), card(agent(plain("A", "1")), agent(plain("A", "2"))), false)
	same(t, api.Card{Props: []api.Prop{{Agent: one}, {Agent: one}}}, card(within("", card(plain("A", "1"))), within("", card(plain("A", "2")))), false)
	same(t, api.Card{Props: []api.Prop{{Agent: one}, {Agent: one}}}, card(within("", card(plain("A", "1"))), within("", card(plain("A", "1")))), true)
	two := []api.Card{card(plain("A", "1")), card(plain("A", "2"))}
	other := []api.Card{card(plain("A", "1")), card(plain("A", "2")), card(plain("A", "2")), card(plain("A", "3"))}
	same(t, api.Card{Props: []api.Prop{{Agent: two[:1]}, {Agent: two}, {Agent: two[1:]}}}, api.Card{Props: []api.Prop{{Agent: other[:1]}, {Agent: other[:2]}, {Agent: other[2:3]}}}, true)
	same(t, api.Card{Props: []api.Prop{{Agent: two[:1]}, {Agent: two}, {Agent: two[1:]}}}, api.Card{Props: []api.Prop{{Agent: other[:1]}, {Agent: other[:2]}, {Agent: other[3:]}}}, false)
	same(t, api.Card{Props: []api.Prop{{Agent: other[:2]}, {Agent: other[:3]}}}, api.Card{Props: []api.Prop{{Agent: other[:2]}, {Agent: append(slices.Clone(other[:2]), other[3])}}}, false)
	held := []api.Prop{plain("A", "1"), plain("A", "2"), plain("A", "2")}
	same(t, card(within("", card(held[:1]...)), within("", api.Card{Props: held[:2]})), card(within("", api.Card{Props: held[:1]}), within("", api.Card{Props: held})), false)
	same(t, api.Card{Props: []api.Prop{{Agent: []api.Card{{Props: held[:2]}}}, {Agent: []api.Card{{Props: held[:2]}}}}}, api.Card{Props: []api.Prop{{Agent: []api.Card{{Props: held[:2]}}}, {Agent: []api.Card{{Props: held[1:]}}}}}, false)
}

// 10.1: Same of cards within one another, up to 9 and beyond.
func TestSameDeep(t *testing.T) {
	for count := 1; count <= 20; count++ {
		for _, l := range [][]api.Prop{nil, {plain("A", "b")}, {plain("A", "b"), plain("C", "d")}} {
			same(t, nested(count, l...), nested(count, l...), count <= 9)
			same(t, nested(count, l...), nested(count, append(l, plain("E", ""))...), false)
			same(t, nested(count, l...), nested(count+1, l...), false)
			wide := card(plain("A", "b"), agent(), within("B", card(), nested(count, l...)), plain("C", "d"))
			same(t, wide, copyOf(wide), count <= 8)
		}
		for _, other := range changed(nested(count, plain("A", "b"))) {
			same(t, nested(count, plain("A", "b")), other, false)
		}
	}
	for _, count := range []int{100, 1000} {
		same(t, nested(count), nested(count), false)
	}
}

// 10.1: Same of many cards.
func TestSameMany(t *testing.T) {
	l := mixedCards(400)
	for i, a := range l {
		same(t, a, copyOf(a), true)
		for j := range 40 {
			b := l[(i+j*j)%len(l)]
			same(t, a, b, alike(a, b))
		}
		if i%10 == 0 {
			for _, b := range changed(a) {
				same(t, a, b, alike(a, b))
			}
		}
	}
}
