package prop_test

import (
	"runtime/debug"
	"slices"
	"testing"

	"cardcase/api"
	"cardcase/prop"
)

// agent is a property with cards, and with parameters that are its own.
func agent(name string, cards []api.Card) api.Prop {
	return api.Prop{Group: "G", Name: name, Params: params("TYPE", "a", "", "b", "TYPE", name), Value: "v", Agent: cards}
}

// rings are properties whose lists of cards lie within themselves.
func rings() map[string]api.Prop {
	itself := make([]api.Card, 1)
	itself[0].Props = []api.Prop{agent("AGENT", itself)}

	twice := make([]api.Card, 2)
	twice[0].Props = []api.Prop{agent("A", twice), {Name: "B"}, agent("C", twice)}
	twice[1].Props = []api.Prop{agent("D", twice)}

	one, other := make([]api.Card, 1), make([]api.Card, 2)
	one[0].Props = []api.Prop{agent("A", other)}
	other[1].Props = []api.Prop{{Name: "N", Params: params("TYPE", "x")}, agent("B", one)}

	pieces := make([]api.Card, 3)
	pieces[0].Props = []api.Prop{agent("A", pieces[:2]), agent("B", pieces[1:])}
	pieces[1].Props = []api.Prop{agent("C", pieces[:1]), agent("D", nil)}
	pieces[2].Props = []api.Prop{agent("E", pieces)}

	props := make([]api.Prop, 2)
	props[0], props[1] = agent("A", []api.Card{{Props: props}}), agent("B", []api.Card{{}, {Props: props[:1]}})

	all := make([][]api.Card, 12)
	for i := range all {
		all[i] = make([]api.Card, 1)
	}
	for _, l := range all {
		for i, within := range all {
			l[0].Props = append(l[0].Props, agent(string(rune('A'+i)), within))
		}
	}
	return map[string]api.Prop{
		"itself": agent("R", itself), "itself twice": agent("R", twice), "two lists": agent("R", one), "pieces": agent("R", pieces), "a piece": agent("R", pieces[2:]),
		"properties": props[1], "each within each": agent("R", all[3]), "behind others": agent("R", []api.Card{{}, {Props: []api.Prop{{Name: "X"}, agent("Y", itself)}}, {Props: []api.Prop{agent("Z", itself)}}}),
	}
}

// sameSoFar tells whether two properties are the same, as far as so many cards within one another.
func sameSoFar(a, b api.Prop, levels int) bool {
	if levels == 0 {
		return true
	}
	return a.Group == b.Group && a.Name == b.Name && a.Value == b.Value && slices.Equal(a.Params, b.Params) && slices.EqualFunc(a.Agent, b.Agent, func(c, d api.Card) bool {
		return slices.EqualFunc(c.Props, d.Props, func(p, q api.Prop) bool { return sameSoFar(p, q, levels-1) })
	})
}

// places are where the lists of a property, and of all within it, begin, with how often each was met; a list of cards that was met is not gone through again.
type places struct {
	cards  map[*api.Card]int
	props  map[*api.Prop]int
	params map[*api.Param]int
}

// placesOf are a property's places.
func placesOf(p api.Prop) places {
	l := places{map[*api.Card]int{}, map[*api.Prop]int{}, map[*api.Param]int{}}
	left := []api.Prop{p}
	for len(left) > 0 {
		p := left[len(left)-1]
		left = left[:len(left)-1]
		for i := range p.Params {
			l.params[&p.Params[i]]++
		}
		for i := range p.Agent {
			if l.cards[&p.Agent[i]]++; l.cards[&p.Agent[i]] > 1 {
				continue
			}
			for j := range p.Agent[i].Props {
				l.props[&p.Agent[i].Props[j]]++
			}
			left = append(left, p.Agent[i].Props...)
		}
	}
	return l
}

// shared tells whether two have a place that is the same.
func shared(a, b places) bool {
	found := false
	for at := range a.cards {
		found = found || b.cards[at] > 0
	}
	for at := range a.props {
		found = found || b.props[at] > 0
	}
	for at := range a.params {
		found = found || b.params[at] > 0
	}
	return found
}

// met tells whether a place was met more than once.
func (l places) met() bool {
	found := false
	for _, count := range l.cards {
		found = found || count > 1
	}
	for _, count := range l.props {
		found = found || count > 1
	}
	for _, count := range l.params {
		found = found || count > 1
	}
	return found
}

// P1 and 8.3: Without of properties whose cards lie within themselves.
func TestWithoutRings(t *testing.T) {
	const levels = 5
	for shape, p := range rings() {
		for name, left := range map[string][]api.Param{"TYPE": params("", "b"), "": params("TYPE", "a", "TYPE", p.Name), "X": p.Params} {
			got := prop.Without(p, name)
			want := p
			want.Params = left
			if !sameSoFar(got, want, levels) {
				t.Errorf("%s: Without(%q) is something else", shape, name)
			}
			mine, others := placesOf(p), placesOf(got)
			if shared(mine, others) {
				t.Errorf("%s: Without(%q): a list is another's", shape, name)
			}
			// Each list is copied once, and a piece of a list is one by itself.
			if len(others.cards) > 3*len(mine.cards)+1 {
				t.Errorf("%s: Without(%q): %d cards, for a ring of %d", shape, name, len(others.cards), len(mine.cards))
			}
			for at := range others.cards {
				at.Props = nil
			}
			for at := range others.params {
				*at = api.Param{Name: "SPOILT"}
			}
			if again := rings()[shape]; !sameSoFar(p, again, levels) {
				t.Fatalf("%s: Without(%q): what was handed in is spoilt", shape, name)
			}
		}
		prop.Param(p, "TYPE")
		wrong(t, p, api.ErrKind)
	}
}

// doubled is a property whose card holds one list twice, whose card holds one list twice, and so on.
func doubled(levels int) api.Prop {
	l := []api.Card{{Props: []api.Prop{{Name: "END", Params: params("", "b")}}}}
	for range levels {
		l = []api.Card{{Props: []api.Prop{agent("LEFT", l), agent("RIGHT", l)}}}
	}
	return agent("TOP", l)
}

// P1 and 8.3: Without of a property that holds the same lists at several places: they are apart; and where there are more places than anybody can go through, the call ends.
func TestWithoutDoubled(t *testing.T) {
	for _, levels := range []int{0, 1, 2, 9} {
		got, want := prop.Without(doubled(levels), "X"), doubled(levels)
		if !sameProps(got, want) {
			t.Errorf("%d levels: Without is something else", levels)
		}
		l := placesOf(got)
		if l.met() || len(l.cards) != 1<<(levels+1)-1 {
			t.Errorf("%d levels: %d cards, or a list at two places", levels, len(l.cards))
		}
	}
	const levels = 200
	p := doubled(levels)
	got := prop.Without(p, "TYPE")
	if shared(placesOf(p), placesOf(got)) || len(got.Params) != 1 {
		t.Errorf("%d levels: a list is another's", levels)
	}
	for _, every := range []int{1, 2, 3, levels} {
		p := p
		q := got
		for i := range levels {
			side := min(i%every, 1)
			p, q = p.Agent[0].Props[side], q.Agent[0].Props[side]
			if q.Name != p.Name || q.Value != "v" || !slices.Equal(q.Params, p.Params) || len(q.Agent) != 1 {
				t.Fatalf("%d levels: %q behind %d", levels, q.Name, i)
			}
		}
		if end := q.Agent[0].Props; len(end) != 1 || end[0].Name != "END" || !slices.Equal(end[0].Params, params("", "b")) || len(end[0].Agent) != 0 {
			t.Errorf("%d levels: %q at the end", levels, end)
		}
	}
}

// P1 and 8.3: Without needs no more stack, the deeper cards lie within one another.
func TestWithoutDeep(t *testing.T) {
	defer debug.SetMaxStack(debug.SetMaxStack(1 << 20))
	const levels = 1 << 18
	p := agent("N", nil)
	for range levels {
		p = agent("AGENT", []api.Card{{Props: []api.Prop{p}}})
	}
	count := 0
	q := prop.Without(p, "TYPE")
	for ; len(q.Agent) == 1 && len(q.Agent[0].Props) == 1 && q.Name == "AGENT"; q = q.Agent[0].Props[0] {
		if wanted := min(1+2*count, 3); len(q.Params) != wanted {
			t.Fatalf("%d parameters behind %d cards", len(q.Params), count)
		}
		count++
	}
	if count != levels || q.Name != "N" || len(q.Agent) != 0 {
		t.Errorf("%q behind %d cards", q.Name, count)
	}
}

// 8.3: Without of a property with very many cards, which stand at two places: they are apart.
func TestWithoutManyCards(t *testing.T) {
	many := make([]api.Card, 1<<20+9)
	many[5].Props = []api.Prop{agent("WITHIN", anAgent())}
	p := agent("TOP", []api.Card{{Props: []api.Prop{agent("A", many), agent("B", anAgent()), agent("C", many)}}})
	without(t, p, "TYPE", params("", "b"))
	if placesOf(prop.Without(p, "TYPE")).met() {
		t.Error("a list at two places")
	}
}

// What is put behind an answer's list that has no members is not behind one that was handed in.
func TestWithoutRoom(t *testing.T) {
	cards, props, list := make([]api.Card, 1), make([]api.Prop, 1), params("A", "b")
	for _, p := range []api.Prop{{Params: list[:0], Agent: cards[:0]}, {Agent: []api.Card{{Props: props[:0]}, {Props: []api.Prop{{Params: list[:0], Agent: cards[:0]}}}}}} {
		got := prop.Without(p, "X")
		spoil(got)
		_ = append(got.Agent, api.Card{Props: props})
		if cards[0].Props != nil || props[0].Name != "" || list[0].Name != "A" {
			t.Errorf("Without(%q): %q, %q and %q are spoilt", p, cards, props, list)
		}
	}
}
