package prop

import (
	"slices"

	"cardcase/api"
)

// mostApart is how many cards, properties and parameters a copy has at the most in which each list is apart from all others: at some 2^7 bytes each these are the 2^31 - 1 bytes that an answer has at the most.
const mostApart = 1 << 24

// cardList is which list of cards one is.
type cardList struct {
	first *api.Card
	count int
}

// copied is a property that shares no list with another. It goes card by card and not within itself, as cards may lie within one another as deep as one likes.
func copied(p api.Prop) api.Prop {
	// Lists that lie within themselves, or stand at more places than anybody can write out, have one copy each: it stands wherever the list stood.
	apart := canBeApart(&p)
	twins := map[cardList][]api.Card{}
	left := []*api.Prop{&p}
	for len(left) > 0 {
		q := left[len(left)-1]
		left = left[:len(left)-1]
		q.Params = slices.Clone(q.Params)
		if len(q.Agent) == 0 {
			q.Agent = nil
			continue
		}
		which := cardList{&q.Agent[0], len(q.Agent)}
		if twin := twins[which]; twin != nil {
			q.Agent = twin
			continue
		}
		q.Agent = slices.Clone(q.Agent)
		if !apart {
			twins[which] = q.Agent
		}
		for i := range q.Agent {
			props := slices.Clone(q.Agent[i].Props)
			for j := range props {
				left = append(left, &props[j])
			}
			q.Agent[i].Props = props
		}
	}
	return p
}

// canBeApart tells whether what is within a property, counted at each place where it stands, is no more than can be copied so.
func canBeApart(p *api.Prop) bool {
	count := 0
	left := []*api.Prop{p}
	for len(left) > 0 {
		cards := left[len(left)-1].Agent
		left = left[:len(left)-1]
		for _, c := range cards {
			if count += 1 + len(c.Props); count > mostApart {
				return false
			}
			for i := range c.Props {
				q := &c.Props[i]
				count += len(q.Params)
				if len(q.Agent) > 0 {
					left = append(left, q)
				}
			}
		}
	}
	return true
}
