package tree

import "cardcase/api"

// mostApart is how many elements a list may have, with all within them, counted at each place where they stand, for the lists of its copy to be apart in any case. Of more than these there is, most often, no end.
const mostApart = 1 << 18

// copied is a list that shares no memory with another.
func copied(l []api.Elem) []api.Elem { return copier(l)(l) }

// copier is how a list, and any one within it, is copied: so that all lists of the copy are apart, if they can be. Lists that lie within themselves, or stand at more places than anybody can write out, have one copy each: it stands wherever the list stood.
func copier(l []api.Elem) func(l []api.Elem) []api.Elem {
	if weightUpTo(l, mostApart+1) > mostApart {
		return mirrored
	}
	return apart
}

// apart is a copy of a list that has, wherever a list stands within it, one that stands nowhere else.
func apart(l []api.Elem) []api.Elem {
	// One list lies behind the other, each without room behind it, in a row that has room for all of them and so never moves.
	row := make([]api.Elem, 0, weightUpTo(l, mostApart))
	put := func(l []api.Elem) []api.Elem {
		if l == nil {
			return nil
		}
		from := len(row)
		row = append(row, l...)
		return row[from:len(row):len(row)]
	}
	out := put(l)
	for i := 0; i < len(row); i++ {
		row[i].Kids = put(row[i].Kids)
	}
	return out
}

// A spot is where an element stands.
type spot struct {
	at     *api.Elem
	span   int        // how many in a row were gone through from here on
	behind *spot      // the one right behind it in any list
	isLed  bool       // whether it is right behind another
	row    []api.Elem // its copy, with those of all that stand in a row behind it
}

// mirror has the spots of all elements that lists share, wholly or in part.
type mirror map[*api.Elem]*spot

// mirrored is a copy of a list that has each element once, however many lists it stands in: their copies share it, as they did.
func mirrored(l []api.Elem) []api.Elem {
	m := mirror{}
	m.gather(l)
	for _, s := range m {
		if !s.isLed {
			s.putRow()
		}
	}
	for _, s := range m {
		s.row[0].Kids = m.of(s.row[0].Kids)
	}
	return m.of(l)
}

// gather goes through a list, and all within it, each element once.
func (m mirror) gather(l []api.Elem) {
	left := [][]api.Elem{l}
	for len(left) > 0 {
		list := left[len(left)-1]
		left = left[:len(left)-1]
		for i := 0; i < len(list); {
			s := m[&list[i]]
			if s == nil {
				s = &spot{at: &list[i]}
				m[s.at] = s
				left = append(left, s.at.Kids)
			}
			// A list may be put together of two that were gone through, each to its end.
			if i > 0 {
				m[&list[i-1]].behind = s
				s.isLed = true
			}
			gone := max(s.span, 1)
			s.span = max(s.span, len(list)-i)
			i += gone
		}
	}
}

// putRow puts the copies of an element that is behind no other, and of all that stand in a row behind it.
func (s *spot) putRow() {
	var row []api.Elem
	for next := s; next != nil; next = next.behind {
		row = append(row, *next.at)
	}
	for next := s; next != nil; next = next.behind {
		next.row = row
		row = row[1:]
	}
}

// of is the copy of a list.
func (m mirror) of(l []api.Elem) []api.Elem {
	if len(l) == 0 {
		return nil
	}
	return m[&l[0]].row[:len(l):len(l)]
}
