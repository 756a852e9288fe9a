package sample

import (
	"slices"
	"strings"

	"cardcase/api"
)

// Node is an element with these kids, by no call of the program.
func Node(page int, name string, kids ...api.Elem) api.Elem {
	return api.Elem{Page: page, Name: name, Kids: kids}
}

// Leaf is an element with this text, by no call of the program.
func Leaf(page int, name, text string) api.Elem {
	return api.Elem{Page: page, Name: name, Text: text}
}

// Holder is an element with these bytes, Opaque, by no call of the program.
func Holder(page int, name, bytes string) api.Elem {
	return api.Elem{Page: page, Name: name, Text: bytes, Opaque: true}
}

// Nest are so many elements within one another, the innermost of which has these kids.
func Nest(count int, kids ...api.Elem) api.Elem {
	e := Node(0, "Add", kids...)
	for range count - 1 {
		e = Node(0, "Add", e)
	}
	return e
}

// SameElem tells whether two elements are the same, by no call of the program.
func SameElem(a, b api.Elem) bool {
	return a.Page == b.Page && a.Name == b.Name && a.Text == b.Text && a.Opaque == b.Opaque && slices.EqualFunc(a.Kids, b.Kids, SameElem)
}

// CopyElem is an element that shares no list with another.
func CopyElem(e api.Elem) api.Elem {
	e.Kids = slices.Clone(e.Kids)
	for i := range e.Kids {
		e.Kids[i] = CopyElem(e.Kids[i])
	}
	return e
}

// Elem is the element that letters say: A to F begin a kid of what is said around it, by one of six names, the further letters say of it which page it has and what, and a dot is its end.
func Elem(letters string) api.Elem {
	names := []string{"Add", "Size", "Last", "DevID", "Private", "X"}
	open := []api.Elem{{Name: "Sync"}}
	end := func() {
		last := len(open) - 1
		open[last-1].Kids = append(open[last-1].Kids, open[last])
		open = open[:last]
	}
	for i := range len(letters) {
		e := &open[len(open)-1]
		switch b := letters[i]; b {
		case '.':
			if len(open) > 1 {
				end()
			}
		case 'p':
			e.Page = (e.Page + 1) % 3
		case 'o':
			e.Opaque = e.Text != ""
		case 'x':
			e.Text += "X"
		case 'v':
			e.Text += "Private"
		case 'z':
			e.Text += strings.Repeat("z", 130)
		case 'n':
			e.Name += "n"
		default:
			if b >= 'A' && b <= 'F' {
				open = append(open, api.Elem{Page: e.Page, Name: names[b-'A']})
				continue
			}
			e.Text += letters[i : i+1]
		}
	}
	for len(open) > 1 {
		end()
	}
	return open[0]
}

// Elems are some count elements of all kinds; with most of them nothing is wrong.
func Elems(count int) []api.Elem {
	var l []api.Elem
	for _, pieces := range [][]string{
		{"A", "B", "C.", "D.", "Ev.", "Fx.", "App.", "Bp.", "Cpabcd.", "Dpabc.", "Eabcd.", "Fabco.", "Abcdo.", ".", "..", "Xn."},
		{"Ax.", "Bv.", "Cpv.", "Dppv.", "Evo.", "Fppx.", "E.", "Fp.", "Ev", "."},
		{"An.", "Bn.", "Cnn.", "Dz.", "Ez.", "Fzo.", "Azz.", "Ap", "Bp", "Cpp", "..", "."},
		{"A", "B", "C", "D", "E", "F", ".", "..", "Ap", "Epp"},
		{"Aab12.", "Bab12.", "Cab12o.", "Fab13.", "Dab1.", "En.", "Fn", "."},
	} {
		for _, letters := range Mixed(count/4, 24, pieces) {
			l = append(l, Elem(letters))
		}
	}
	return l
}

// WrongElem is an element that may not be, and tree.Check's error of it.
type WrongElem struct {
	Elem  api.Elem
	Wrong api.Errno
}

// WrongElems are elements with one thing wrong, or more, by what that is; each call makes new ones.
func WrongElems() map[string]WrongElem {
	many := Node(0, "Sync", slices.Repeat([]api.Elem{Node(0, "Many", slices.Repeat([]api.Elem{Leaf(0, "Data", "text")}, 199)...)}, 10)...)
	return map[string]WrongElem{
		"13 deep":              {Nest(12, Leaf(0, "Deep", "text")), api.ErrDeep},
		"2001 elements":        {many, api.ErrFull},
		"page 3":               {Leaf(3, "Page", "text"), api.ErrKind},
		"page -1":              {Leaf(-1, "Page", "text"), api.ErrKind},
		"page 256":             {Leaf(256, "Add", ""), api.ErrKind},
		"no name":              {Leaf(0, "", "text"), api.ErrName},
		"a name with a nought": {Leaf(0, "Add\x00", ""), api.ErrName},
		"a name of 33":         {Leaf(0, strings.Repeat("N", 33), ""), api.ErrName},
		"201 kids":             {Node(0, "Kids", slices.Repeat([]api.Elem{Leaf(0, "Kid", "text")}, 201)...), api.ErrFull},
		"a text and kids":      {api.Elem{Name: "Both", Text: "text", Kids: []api.Elem{Leaf(0, "Kid", "text")}}, api.ErrState},
		"a text of 4001":       {Leaf(0, "Data", strings.Repeat("d", 4001)), api.ErrLong},
		"bytes, 4001":          {Holder(0, "Data", strings.Repeat("\x00", 4001)), api.ErrLong},
		"Opaque without bytes": {Holder(0, "Nothing", ""), api.ErrField},
		"a nought":             {Leaf(0, "Data", "te\x00xt"), api.ErrField},
		"no letters":           {Leaf(0, "Data", "\xff"), api.ErrField},
		"a kid, not right":     {Node(0, "Around", Leaf(0, "Name", "text"), Leaf(0, "Name", "text"), Leaf(0, "-", "")), api.ErrName},
	}
}

// ElemRings are elements that lie within themselves, by their shapes; each call makes new ones. But for that each may be.
func ElemRings() map[string]api.Elem {
	named := func(names string) []api.Elem {
		l := make([]api.Elem, len(names))
		for i := range l {
			l[i].Name = names[i : i+1]
		}
		return l
	}

	itself := named("A")
	itself[0].Kids = itself

	last := named("ABC")
	last[2].Kids = last

	twice := named("AB")
	twice[0].Kids, twice[1].Kids = twice, twice

	one, other := named("A"), named("BC")
	one[0].Kids, other[1].Kids = other, one

	pieces := named("ABC")
	pieces[0].Kids, pieces[1].Kids, pieces[2].Kids = pieces[:2], pieces[1:], pieces

	parted := named("ABCDE")
	parted[0].Kids, parted[1].Kids, parted[2].Kids, parted[4].Kids = parted[:2], parted[2:], parted[1:4], parted

	all := make([][]api.Elem, 30)
	for i := range all {
		all[i] = make([]api.Elem, len(all))
	}
	for i, l := range all {
		for j := range l {
			l[j] = api.Elem{Page: i % 3, Name: string(rune('A' + j%26)), Kids: all[j]}
		}
	}

	within := named("DEF")
	within[1].Kids = []api.Elem{{Name: "G"}, {Page: 2, Name: "H", Kids: itself}, {Page: 1, Name: "I", Kids: last[1:]}}
	return map[string]api.Elem{
		"itself": itself[0], "itself, last": last[2], "itself, twice": twice[1], "two": one[0], "the other of two": other[1],
		"pieces": pieces[0], "a piece": pieces[1], "the last piece": pieces[2], "parted": parted[4], "parted, of one that is none": {Name: "R", Kids: parted[1:3]},
		"each within each": all[3][5], "behind others": {Name: "R", Kids: within},
	}
}
