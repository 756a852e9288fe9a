package vcard

import (
	"iter"
	"slices"

	"cardcase/api"
)

// mostDeep is how many cards within one another are told apart from more of them.
const mostDeep = 9

// spans are the places of lists that were gone through: of each, how many in a row from there on. Cards may lie within themselves, and lists may stand, wholly or in part, in more places than anybody can go through.
type spans[K comparable] map[K]int

// fresh are the members, by their numbers, of a list of so many that were not gone through yet; at is the place of each.
func (s spans[K]) fresh(count int, at func(int) K) iter.Seq[int] {
	return func(yield func(int) bool) {
		for i := 0; i < count; {
			place := at(i)
			gone := s[place]
			if gone == 0 && !yield(i) {
				return
			}
			// The others up to the end follow.
			s[place] = count - i
			i += max(gone, 1)
		}
	}
}

// Deep is how many cards lie within one another.
func Deep(c api.Card) int { return deepUpTo(c, mostDeep) }

// deepUpTo is how many cards lie within one another, if these are no more than most; else most.
func deepUpTo(c api.Card, most int) int {
	level := [][]api.Card{{c}}
	for count := range most {
		if len(level) == 0 {
			return count
		}
		level = within(level)
	}
	return most
}

// within are the lists of cards right within those of a level.
func within(level [][]api.Card) [][]api.Card {
	var next [][]api.Card
	cards, props := spans[*api.Card]{}, spans[*api.Prop]{}
	for _, l := range level {
		for i := range cards.fresh(len(l), func(i int) *api.Card { return &l[i] }) {
			held := l[i].Props
			for j := range props.fresh(len(held), func(j int) *api.Prop { return &held[j] }) {
				if len(held[j].Agent) > 0 {
					next = append(next, held[j].Agent)
				}
			}
		}
	}
	return next
}

// Same tells whether two cards are the same.
func Same(a, b api.Card) bool {
	// If b is the same, it is as deep.
	if deepUpTo(a, mostDeep+1) > mostDeep {
		return false
	}
	p := pairs{spans[[2]*api.Card]{}, spans[[2]*api.Prop]{}}
	return p.sameCards([]api.Card{a}, []api.Card{b})
}

// pairs are the places that were held against each other: once is enough, as whatever is not the same ends it all.
type pairs struct {
	cards spans[[2]*api.Card]
	props spans[[2]*api.Prop]
}

// sameCards tells whether two lists of cards are the same, as far as they were not held against each other yet.
func (p pairs) sameCards(a, b []api.Card) bool {
	if len(a) != len(b) {
		return false
	}
	for i := range p.cards.fresh(len(a), func(i int) [2]*api.Card { return [2]*api.Card{&a[i], &b[i]} }) {
		if !p.sameProps(a[i].Props, b[i].Props) {
			return false
		}
	}
	return true
}

// sameProps tells whether two lists of properties are the same, as far as they were not held against each other yet.
func (p pairs) sameProps(a, b []api.Prop) bool {
	if len(a) != len(b) {
		return false
	}
	for i := range p.props.fresh(len(a), func(i int) [2]*api.Prop { return [2]*api.Prop{&a[i], &b[i]} }) {
		if !sameBare(a[i], b[i]) || !p.sameCards(a[i].Agent, b[i].Agent) {
			return false
		}
	}
	return true
}

// sameBare tells whether two properties are the same but for their Agents.
func sameBare(a, b api.Prop) bool {
	return a.Group == b.Group && a.Name == b.Name && a.Value == b.Value && slices.Equal(a.Params, b.Params)
}
