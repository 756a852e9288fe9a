package sample

import "cardcase/api"

// holding is a property with cards.
func holding(cards []api.Card) api.Prop { return api.Prop{Name: "AGENT", Agent: cards} }

// Rings are cards that lie within themselves, by their shapes; each call makes new ones.
func Rings() map[string]api.Card {
	itself := make([]api.Card, 1)
	itself[0].Props = []api.Prop{holding(itself)}

	last := make([]api.Card, 3)
	last[2].Props = []api.Prop{{Name: "A", Value: "b"}, holding(last)}

	one, other := make([]api.Card, 1), make([]api.Card, 2)
	one[0].Props = []api.Prop{{Name: "FN", Value: "a"}, holding(other)}
	other[1].Props = []api.Prop{holding(one), {Name: "FN", Value: "b"}}

	props := make([]api.Prop, 2)
	props[0], props[1] = api.Prop{Name: "FN", Value: "a"}, holding([]api.Card{{Props: props}})

	pieces := make([]api.Card, 3)
	pieces[0].Props = []api.Prop{holding(pieces[:2]), holding(pieces[1:])}
	pieces[1].Props = []api.Prop{holding(pieces[:1]), {Name: "A"}}
	pieces[2].Props = []api.Prop{holding(pieces)}

	all := make([][]api.Card, 30)
	for i := range all {
		all[i] = make([]api.Card, 1)
	}
	for _, l := range all {
		for _, within := range all {
			l[0].Props = append(l[0].Props, holding(within))
		}
	}

	behind := []api.Card{{Props: []api.Prop{{Name: "B"}, holding([]api.Card{{Props: []api.Prop{holding(itself)}}})}}}
	return map[string]api.Card{
		"itself": itself[0], "itself, last": last[2], "two": one[0], "the other of two": other[1], "properties": {Props: props},
		"pieces": pieces[0], "a piece": pieces[1], "the last piece": pieces[2], "each within each": all[3][0],
		"behind others": {Props: []api.Prop{{Name: "A"}, holding([]api.Card{{}}), holding(behind)}},
	}
}
