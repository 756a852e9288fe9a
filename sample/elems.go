package sample

import "cardcase/api"

// ElemRings are elements that lie within themselves, by their shapes; each call makes new ones. But for that each may be.
func ElemRings() map[string]api.Elem {
	named := func(names string) []api.Elem {
		l := make([]api.Elem, len(names))
		for i := range l {
			l[i].Name = names[i : i+1]
		}
		return l
	}

	itself := named("A")
	itself[0].Kids = itself

	last := named("ABC")
	last[2].Kids = last

	twice := named("AB")
	twice[0].Kids, twice[1].Kids = twice, twice

	one, other := named("A"), named("BC")
	one[0].Kids, other[1].Kids = other, one

	pieces := named("ABC")
	pieces[0].Kids, pieces[1].Kids, pieces[2].Kids = pieces[:2], pieces[1:], pieces

	parted := named("ABCDE")
	parted[0].Kids, parted[1].Kids, parted[2].Kids, parted[4].Kids = parted[:2], parted[2:], parted[1:4], parted

	all := make([][]api.Elem, 30)
	for i := range all {
		all[i] = make([]api.Elem, len(all))
	}
	for i, l := range all {
		for j := range l {
			l[j] = api.Elem{Page: i % 3, Name: string(rune('A' + j%26)), Kids: all[j]}
		}
	}

	within := named("DEF")
	within[1].Kids = []api.Elem{{Name: "G"}, {Page: 2, Name: "H", Kids: itself}, {Page: 1, Name: "I", Kids: last[1:]}}
	return map[string]api.Elem{
		"itself": itself[0], "itself, last": last[2], "itself, twice": twice[1], "two": one[0], "the other of two": other[1],
		"pieces": pieces[0], "a piece": pieces[1], "the last piece": pieces[2], "parted": parted[4], "parted, of one that is none": {Name: "R", Kids: parted[1:3]},
		"each within each": all[3][5], "behind others": {Name: "R", Kids: within},
	}
}
