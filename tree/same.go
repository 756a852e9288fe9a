package tree

import (
	"iter"

	"cardcase/api"
)

// pair are two lists, of as many elements, that are held against each other.
type pair struct{ a, b []api.Elem }

// spans are places of two lists that were held against each other: of each, how many in a row from there on. Elements may lie within themselves, and lists may stand, wholly or in part, in more places than anybody can go through.
type spans map[[2]*api.Elem]int

// fresh are the members, by their numbers, of a pair's lists that were not held against each other yet.
func (s spans) fresh(p pair) iter.Seq[int] {
	return func(yield func(int) bool) {
		for i := 0; i < len(p.a); {
			place := [2]*api.Elem{&p.a[i], &p.b[i]}
			gone := s[place]
			// The others up to the end follow.
			s[place] = max(gone, len(p.a)-i)
			if gone == 0 && !yield(i) {
				return
			}
			i += max(gone, 1)
		}
	}
}

// Same tells whether two elements are the same.
func Same(a, b api.Elem) bool {
	// Depth by depth, so that two places are come to where most of what is within them is looked at: once is enough, as whatever is not the same ends it all.
	held := spans{}
	level := []pair{{[]api.Elem{a}, []api.Elem{b}}}
	for range mostDeep {
		var next []pair
		for _, p := range level {
			for i := range held.fresh(p) {
				x, y := &p.a[i], &p.b[i]
				if !sameBare(x, y) {
					return false
				}
				if len(x.Kids) > 0 {
					next = append(next, pair{x.Kids, y.Kids})
				}
			}
		}
		level = next
	}
	return true
}

// sameBare tells whether two elements are the same, with as many kids, whatever these are.
func sameBare(a, b *api.Elem) bool {
	return a.Page == b.Page && a.Name == b.Name && a.Text == b.Text && a.Opaque == b.Opaque && len(a.Kids) == len(b.Kids)
}
