package tree_test

import (
	"regexp"
	"slices"
	"strings"

	"cardcase/api"
	"cardcase/sample"
)

// The chapter's numbers, said once more.
const (
	mostDeep    = 12
	mostElems   = 2000
	mostKids    = 200
	mostText    = 4000
	mostName    = 32
	mostCounted = 5000
	mostLooked  = 20
)

// A step is an element, with how deep it lies.
type step struct {
	deep int
	e    api.Elem
}

// steps are the first ones, so many at the most, of an element and all within it, as far as so deep, each ahead of its kids.
func steps(e api.Elem, deepest, most int) []step {
	var l []step
	var put func(deep int, e api.Elem)
	put = func(deep int, e api.Elem) {
		if deep > deepest || len(l) == most {
			return
		}
		l = append(l, step{deep, e})
		for i := 0; i < len(e.Kids) && len(l) < most; i++ {
			put(deep+1, e.Kids[i])
		}
	}
	put(1, e)
	return l
}

var (
	nameWords = regexp.MustCompile(`\A[A-Za-z][A-Za-z0-9]{0,31}\z`)
	// textWords is said letter by letter: what is no letter is another thing.
	textWords = regexp.MustCompile(`\A[\t\n\x20-\x{10ffff}]*\z`)
)

// mayStand tells whether a text may stand in an element that is not Opaque.
func mayStand(text string) bool {
	return string([]rune(text)) == text && textWords.MatchString(text)
}

// faultWords is what is wrong with an element alone: the first that is, as 13.1 has them in order.
func faultWords(e api.Elem) api.Errno {
	text, kids := len(e.Text) > 0, len(e.Kids) > 0
	for _, one := range []struct {
		is bool
		e  api.Errno
	}{
		{!slices.Contains([]int{0, 1, 2}, e.Page), api.ErrKind},
		{!nameWords.MatchString(e.Name), api.ErrName},
		{len(e.Kids) > mostKids, api.ErrFull},
		{text && kids, api.ErrState},
		{len(e.Text) > mostText, api.ErrLong},
		{e.Opaque && !text || !e.Opaque && !mayStand(e.Text), api.ErrField},
	} {
		if one.is {
			return one.e
		}
	}
	return api.OK
}

// checkWords is 13.1's Check, said once more.
func checkWords(e api.Elem) api.Errno {
	for _, s := range steps(e, mostDeep+1, mostCounted) {
		if s.deep == mostDeep+1 {
			return api.ErrDeep
		}
	}
	all := steps(e, mostDeep, mostElems+1)
	if len(all) > mostElems {
		return api.ErrFull
	}
	for _, s := range all {
		if fault := faultWords(s.e); fault != api.OK {
			return fault
		}
	}
	return api.OK
}

// weightWords is 13.1's Weight, said once more, of elements that lie no deeper than anybody can go.
func weightWords(e api.Elem) int { return len(steps(e, 1<<30, mostCounted)) }

// alike tells whether two elements are the same, as far as so many within one another, and how many kids there are of the last of these.
func alike(a, b api.Elem, levels int) bool {
	if a.Page != b.Page || a.Name != b.Name || a.Text != b.Text || a.Opaque != b.Opaque || len(a.Kids) != len(b.Kids) {
		return false
	}
	for i := range a.Kids {
		if levels > 1 && !alike(a.Kids[i], b.Kids[i], levels-1) {
			return false
		}
	}
	return true
}

// all is more levels than elements of these tests have that lie neither within themselves nor as deep as one likes.
const all = 1 << 20

// node is an element with these kids, by no call of the program.
func node(name string, kids ...api.Elem) api.Elem { return api.Elem{Name: name, Kids: kids} }

// leaf is an element with this text, by no call of the program.
func leaf(name, text string) api.Elem { return api.Elem{Name: name, Text: text} }

// nested are so many elements within one another, the innermost of which has these kids.
func nested(count int, kids ...api.Elem) api.Elem {
	e := node("N", kids...)
	for range count - 1 {
		e = node("N", e)
	}
	return e
}

// leaves are so many elements beside one another.
func leaves(count int) []api.Elem {
	return slices.Repeat([]api.Elem{{Name: "L"}}, count)
}

// bush is an element that has so many, with all within it, none with more than 200 kids as long as they are no more than 40000.
func bush(count int) api.Elem {
	e := api.Elem{Name: "B"}
	for left := count - 1; left > 0; {
		within := min(left, 200)
		e.Kids = append(e.Kids, node("C", leaves(within-1)...))
		left -= within
	}
	return e
}

// copyOf is an element that shares no list with another.
func copyOf(e api.Elem) api.Elem {
	e.Kids = slices.Clone(e.Kids)
	for i := range e.Kids {
		e.Kids[i] = copyOf(e.Kids[i])
	}
	return e
}

// placesOf are the places of the elements of a list, and of all within it, with how often each was met; the kids of one that was met are not gone through again.
func placesOf(l []api.Elem) map[*api.Elem]int {
	count := map[*api.Elem]int{}
	left := [][]api.Elem{l}
	for len(left) > 0 {
		list := left[len(left)-1]
		left = left[:len(left)-1]
		for i := range list {
			if count[&list[i]]++; count[&list[i]] == 1 {
				left = append(left, list[i].Kids)
			}
		}
	}
	return count
}

// shares tells whether two lists, with all that is within them, have a place that is the same.
func shares(a, b []api.Elem) bool {
	mine := placesOf(a)
	for at := range placesOf(b) {
		if mine[at] > 0 {
			return true
		}
	}
	return false
}

// meets tells whether a list's elements, and all within them, have a place that is met more than once.
func meets(l []api.Elem) bool {
	for _, count := range placesOf(l) {
		if count > 1 {
			return true
		}
	}
	return false
}

// spoil overwrites all elements of a list, and all within them, with all the room that the lists have.
func spoil(l []api.Elem) {
	for at := range placesOf(l) {
		room := at.Kids[:cap(at.Kids)]
		*at = api.Elem{Page: 99, Name: "spoilt", Text: "\x00", Opaque: true}
		for i := range room {
			if room[i].Page != 99 {
				room[i].Name = "spoilt"
			}
		}
	}
	l = l[:cap(l)]
	for i := range l {
		l[i] = api.Elem{Name: "spoilt"}
	}
}

// said is the element that letters say: a name begins a kid of what is said around it, the further letters say of it what is there and what is wrong, and a dot is its end.
func said(letters string) api.Elem {
	open := []api.Elem{{Name: "A"}}
	end := func() {
		last := len(open) - 1
		open[last-1].Kids = append(open[last-1].Kids, open[last])
		open = open[:last]
	}
	for i := range len(letters) {
		e := &open[len(open)-1]
		switch letters[i] {
		case '.':
			if len(open) > 1 {
				end()
			}
		case 'p':
			e.Page++
		case 'm':
			e.Page--
		case 'n':
			e.Name = ""
		case '-':
			e.Name += "-"
		case '9':
			e.Name += strings.Repeat("9", 10)
		case 't':
			e.Text += "t"
		case 'l':
			e.Text += strings.Repeat("l", 1500)
		case 'z':
			e.Text += "\x00"
		case 'c':
			e.Text += "\xc3"
		case 'b':
			e.Text += "\xa9"
		case 'o':
			e.Opaque = true
		case 'w':
			e.Kids = append(e.Kids, leaves(90)...)
		default:
			open = append(open, api.Elem{Name: letters[i : i+1]})
		}
	}
	for len(open) > 1 {
		end()
	}
	return open[0]
}

// mixed are so many elements of all kinds, most of which have nothing wrong with them, or little.
func mixed(count int) []api.Elem {
	var l []api.Elem
	for _, pieces := range [][]string{
		{"A", "B", "C.", "D.", "Et.", "Fp", "Gpp.", "Hto.", "I9.", ".", "..", "A..", "Jcb."},
		{"A", "B", "C.", "Dt.", ".", "..", "...", "Ep", "Fpp.", "ot", "p", "t"},
		{"A", "B", "C", ".", "D.", "Ew.", "Flll.", "Gw", "Hcb", "I99.", "J999.", "o", "t", "z", "c", "m", "n", "-", "ll", "pp"},
		{"A", "B", "C", "A", "B", "C", ".", ".", "Aw.", "Bt", "Co."},
		{"Aw.", "Bw", ".", "Cw."},
	} {
		for _, letters := range sample.Mixed(count/5, 30, pieces) {
			l = append(l, said(letters))
		}
	}
	return l
}

// small are those of some elements of which not many are within.
func small(l []api.Elem) []api.Elem {
	return slices.DeleteFunc(l, func(e api.Elem) bool { return weightWords(e) > 60 })
}
