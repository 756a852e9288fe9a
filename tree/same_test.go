package tree_test

import (
	"runtime/debug"
	"slices"
	"strings"
	"testing"

	"cardcase/api"
	"cardcase/sample"
	"cardcase/tree"
)

// same holds Same, of both orders, against what it must answer.
func same(t *testing.T, what string, a, b api.Elem, want bool) {
	t.Helper()
	if got := tree.Same(a, b); got != want {
		t.Errorf("Same of %.100q: %v", what, got)
	}
	if got := tree.Same(b, a); got != want {
		t.Errorf("Same of %.100q, in the other order: %v", what, got)
	}
}

// changed are elements that differ from one in just one thing, at each thing, at any depth.
func changed(e api.Elem) []api.Elem {
	var l []api.Elem
	put := func(change func(e *api.Elem)) {
		other := copyOf(e)
		change(&other)
		l = append(l, other)
	}
	for _, page := range []int{1, -1, 1 << 32} {
		put(func(e *api.Elem) { e.Page += page })
	}
	put(func(e *api.Elem) { e.Name += "x" })
	if e.Name != "" {
		put(func(e *api.Elem) { e.Name = e.Name[:len(e.Name)-1] + string(e.Name[len(e.Name)-1]^' ') })
	}
	put(func(e *api.Elem) { e.Text += "\x00" })
	put(func(e *api.Elem) { e.Text = "x" + e.Text })
	put(func(e *api.Elem) { e.Opaque = !e.Opaque })
	for i := range len(e.Kids) + 1 {
		put(func(e *api.Elem) { e.Kids = slices.Insert(e.Kids, i, api.Elem{}) })
	}
	for i, kid := range e.Kids {
		put(func(e *api.Elem) { e.Kids = slices.Delete(e.Kids, i, i+1) })
		put(func(e *api.Elem) { e.Kids = e.Kids[:i] })
		for j := range i {
			if !alike(e.Kids[j], kid, all) {
				put(func(e *api.Elem) { e.Kids[i], e.Kids[j] = e.Kids[j], e.Kids[i] })
			}
		}
		for _, other := range changed(kid) {
			put(func(e *api.Elem) { e.Kids[i] = other })
		}
	}
	return l
}

// 13.2: Same of elements that differ in one thing, at each depth.
func TestSame(t *testing.T) {
	e := api.Elem{Page: 1, Name: "Aa", Kids: []api.Elem{
		leaf("B", "t"),
		{Name: "C", Text: "t", Opaque: true, Kids: []api.Elem{node("D", leaf("E", ""), leaf("E", "\xff"), api.Elem{Page: 2, Name: "E"}), {}}},
		node("F", nested(4, leaf("B", "t"))),
		leaf("B", "u"),
	}}
	others := append(changed(e), e)
	if len(others) < 100 {
		t.Errorf("%d elements", len(others))
	}
	for i, a := range others {
		for j, b := range others {
			if want := alike(a, b, all); want != tree.Same(a, b) {
				t.Errorf("Same(%+v, %+v): %v", a, b, !want)
			} else if want && i != j && (i == len(others)-1 || j == len(others)-1) {
				t.Errorf("%+v is no other element", a)
			}
		}
		same(t, "a copy", a, copyOf(a), true)
	}
	same(t, "nothing", api.Elem{}, api.Elem{}, true)
	same(t, "nothing, and an empty kid", api.Elem{}, api.Elem{Kids: []api.Elem{{}}}, false)
	same(t, "the same letters, one of them apart", leaf("A", "é"), leaf("A", "e\u0301"), false)
	same(t, "name and text, one for the other", leaf("A", "B"), leaf("B", "A"), false)
	same(t, "long texts that differ at the end", leaf("A", strings.Repeat("t", 1<<20)+"a"), leaf("A", strings.Repeat("t", 1<<20)+"b"), false)
	same(t, "two kids, and one with a kid", node("A", node("B"), node("B")), node("A", node("B", node("B"))), false)
	same(t, "a kid of one or of the other", node("A", node("B", node("C")), node("B")), node("A", node("B"), node("B", node("C"))), false)
}

// 13.2: nil lists, and empty ones.
func TestSameEmpty(t *testing.T) {
	lists := [][]api.Elem{nil, {}, leaves(3)[:0]}
	for _, one := range lists {
		for _, other := range lists {
			a, b := api.Elem{Name: "A", Text: "t", Kids: one}, api.Elem{Name: "A", Text: "t", Kids: other}
			same(t, "no kids", a, b, true)
			same(t, "no kids, within", node("A", leaf("B", ""), a), node("A", leaf("B", ""), b), true)
			same(t, "no kids, 20 deep", nested(19, a), nested(19, b), true)
			same(t, "no kids, but another name", a, leaf("B", "t"), false)
		}
	}
}

// behind is an element that lies so deep in another.
func behind(deep int, e api.Elem) api.Elem {
	if deep == 1 {
		return e
	}
	return nested(deep-1, e)
}

// 13.2: what lies 20 deep is looked at, with how many kids it has; what lies deeper is not.
func TestSameDeep(t *testing.T) {
	e := leaf("A", "t")
	for deep := 1; deep <= 40; deep++ {
		tooDeep := deep > mostLooked
		for _, other := range changed(e) {
			same(t, "elements that differ so deep", behind(deep, e), behind(deep, other), tooDeep)
			same(t, "elements that differ so deep, behind others", node("A", leaf("B", ""), behind(deep, e)), node("A", leaf("B", ""), behind(deep, other)), deep+1 > mostLooked)
		}
		same(t, "a kid less so deep", behind(deep, node("A", e, e)), behind(deep, node("A", e)), tooDeep)
		same(t, "no kids so deep", behind(deep, node("A", e)), behind(deep, node("A")), tooDeep)
		same(t, "other kids so deep", behind(deep, node("A", e)), behind(deep, node("A", leaf("B", ""))), deep+1 > mostLooked)
		same(t, "another last kid so deep", behind(deep, node("A", e, e)), behind(deep, node("A", e, leaf("A", "u"))), deep+1 > mostLooked)
	}
	same(t, "21 deep and 22 deep", nested(21), nested(22), true)
	same(t, "20 deep and 21 deep", nested(20), nested(21), false)
	same(t, "19 deep and 20 deep", nested(19), nested(20), false)
	same(t, "1000 deep and 21 deep", nested(1000), nested(21), true)
	same(t, "1000 deep and 20 deep", nested(1000), nested(20), false)
	same(t, "1000 deep twice, and others 21 deep", nested(1000, bush(300)), nested(21, bush(200)), true)
}

// 13.2: Same of many elements.
func TestSameMany(t *testing.T) {
	l := mixed(500)
	for i, a := range l {
		same(t, "a copy", a, copyOf(a), true)
		for j := range 40 {
			b := l[(i+j*j)%len(l)]
			same(t, "two", a, b, alike(a, b, mostLooked))
		}
		if tree.Weight(a) < 40 {
			for _, b := range changed(a) {
				same(t, "two that differ", a, b, alike(a, b, mostLooked))
			}
		}
	}
}

// 13.2: one list, at places at which the other element has different ones.
func TestSamePlaces(t *testing.T) {
	one := []api.Elem{leaf("A", "1")}
	both := node("R", node("B", one...), node("B", one...))
	same(t, "one list, two alike", both, node("R", node("B", leaf("A", "1")), node("B", leaf("A", "1"))), true)
	same(t, "one list, two that differ", both, node("R", node("B", leaf("A", "1")), node("B", leaf("A", "2"))), false)
	same(t, "one list, deeper", both, node("R", node("B", one...), node("B", node("A"))), false)
	two, other := []api.Elem{leaf("A", "1"), leaf("A", "2"), leaf("A", "3")}, []api.Elem{leaf("A", "1"), leaf("A", "2"), leaf("A", "2"), leaf("A", "3"), leaf("A", "4")}
	pieces := func(l []api.Elem, from ...int) api.Elem {
		e := api.Elem{Name: "R"}
		for i := 0; i+1 < len(from); i += 2 {
			e.Kids = append(e.Kids, node("P", l[from[i]:from[i+1]]...))
			e.Kids[len(e.Kids)-1].Kids = l[from[i]:from[i+1]]
		}
		return e
	}
	same(t, "pieces", pieces(two, 0, 1, 0, 2, 1, 3, 0, 3), copyOf(pieces(two, 0, 1, 0, 2, 1, 3, 0, 3)), true)
	same(t, "pieces of a list, and of another", pieces(two, 0, 1, 0, 2, 1, 2, 2, 3), pieces(other, 0, 1, 0, 2, 2, 3, 3, 4), true)
	same(t, "pieces of a list, one longer in the other", pieces(two, 0, 1, 0, 2), pieces(other, 0, 1, 0, 3), false)
	same(t, "pieces, the first longer", pieces(two, 0, 2, 1, 3), pieces(other, 0, 2, 2, 4), true)
	same(t, "pieces, the last one differs", pieces(two, 0, 2, 1, 3), pieces(other, 0, 2, 1, 3), false)
	same(t, "pieces, the last member differs", pieces(two, 0, 2, 0, 3), pieces(other, 0, 2, 0, 3), false)
	same(t, "pieces, of which the middle is known", pieces(two, 1, 2, 0, 3), node("R", node("P", leaf("A", "2")), node("P", leaf("A", "1"), leaf("A", "2"), leaf("A", "4"))), false)
	fives := func(last string) []api.Elem {
		return []api.Elem{leaf("A", "1"), leaf("A", "2"), leaf("A", "3"), leaf("A", "4"), leaf("A", last)}
	}
	same(t, "pieces that overlap", pieces(fives("5"), 0, 2, 1, 4, 0, 5), pieces(fives("6"), 0, 2, 1, 4, 0, 5), false)
	same(t, "pieces that overlap", pieces(fives("5"), 2, 4, 0, 3, 0, 5), pieces(fives("6"), 2, 4, 0, 3, 0, 5), false)
	same(t, "pieces that overlap", pieces(fives("5"), 2, 4, 0, 3, 0, 5), pieces(fives("5"), 2, 4, 0, 3, 0, 5), true)
	// The same lists at a depth at which they are looked at further than where they stood first
	deep := nested(10, leaf("A", "1"))
	other20 := nested(10, leaf("A", "2"))
	a := node("R", nested(12, deep), nested(1, deep))
	b := node("R", nested(12, other20), nested(1, other20))
	same(t, "elements too deep, and then again", a, b, false)
	same(t, "elements too deep, and not again", node("R", nested(12, deep)), node("R", nested(12, other20)), true)
	list, otherList := []api.Elem{deep}, []api.Elem{other20}
	a, b = node("R", nested(12), node("N")), node("R", nested(12), node("N"))
	innermost(&a.Kids[0]).Kids, a.Kids[1].Kids = list, list
	innermost(&b.Kids[0]).Kids, b.Kids[1].Kids = otherList, otherList
	same(t, "a list too deep, and then again", a, b, false)
	a.Kids[1].Kids, b.Kids[1].Kids = nil, nil
	same(t, "a list too deep, and not again", a, b, true)
}

// innermost is the place of the element that lies deepest within one.
func innermost(e *api.Elem) *api.Elem {
	for len(e.Kids) > 0 {
		e = &e.Kids[0]
	}
	return e
}

// P1 and 13.2: Same of elements that lie within themselves ends, and tells what is within them up to 20 deep.
func TestSameRings(t *testing.T) {
	for shape, e := range sample.ElemRings() {
		same(t, shape, e, e, true)
		again := sample.ElemRings()[shape]
		same(t, shape, e, again, true)
		same(t, shape+", and nothing", e, api.Elem{}, false)
		same(t, shape+", within", node("A", leaf("B", ""), e), node("A", leaf("B", ""), again), true)
		same(t, shape+", 20 deep", nested(mostLooked, e), nested(mostLooked, leaf("X", "x")), true)
		same(t, shape+", 19 deep", nested(mostLooked-1, e), nested(mostLooked-1, leaf("X", "x")), false)
		same(t, shape+", 10 deep", nested(9, e), nested(9, again), true)
		for place := range placesOf([]api.Elem{again}) {
			was := *place
			place.Text += "x"
			// Those of e and again that aren't alike so deep may be alike further out.
			same(t, shape+", with something else", e, again, alikeUpTo(e, again, mostLooked))
			*place = was
		}
		for other, held := range sample.ElemRings() {
			same(t, shape+" and "+other, e, held, alikeUpTo(e, held, mostLooked))
		}
	}
	itself := sample.ElemRings()["itself"]
	line := leaf("A", "")
	for range 19 {
		line = node("A", line)
	}
	same(t, "itself, and a line of 20", itself, line, false)
	same(t, "itself, and a line of 21", itself, node("A", line), true)
	innermost(&line).Kids = []api.Elem{leaf("X", "")}
	same(t, "itself, and a line of 20 with another", itself, line, true)
}

// alikeUpTo is alike, for elements of which very many are within, that are soon seen to differ: what was found of two of them is remembered, with how far it was looked for.
func alikeUpTo(a, b api.Elem, levels int) bool {
	known := map[[2]*api.Elem][]int{}
	var ask func(a, b *api.Elem, levels int) bool
	ask = func(a, b *api.Elem, levels int) bool {
		at := [2]*api.Elem{a, b}
		for _, n := range known[at] {
			if n >= levels {
				return true
			}
		}
		if !alike(*a, *b, 1) {
			return false
		}
		for i := 0; i < len(a.Kids) && levels > 1; i++ {
			if !ask(&a.Kids[i], &b.Kids[i], levels-1) {
				return false
			}
		}
		// As far as it was looked for, nothing was found, or all ends.
		known[at] = append(known[at], levels)
		return true
	}
	return ask(&a, &b, levels)
}

// windows is an element of so many levels of very many kids, each of which has what of the next list stands behind it, or ahead of it, or around it.
func windows(levels, size int) api.Elem {
	last := make([]api.Elem, size)
	for range levels {
		list := make([]api.Elem, size)
		for i := range list {
			list[i].Name = "W"
			switch i % 3 {
			case 0:
				list[i].Kids = last[i:]
			case 1:
				list[i].Kids = last[:i+1]
			case 2:
				list[i].Kids = last[i/2 : (i+size+1)/2]
			}
		}
		last = list
	}
	return api.Elem{Name: "W", Kids: last}
}

// P1 and 13.2: Same of lists that stand in more places than anybody can go through, of very long ones and of very deep ones ends, without more stack.
func TestSameAnything(t *testing.T) {
	for levels := range 40 {
		a, b := multiplied(levels, 200), multiplied(levels, 200)
		same(t, "lists at many places", a, b, true)
		same(t, "lists at many places, one deeper", a, multiplied(levels+1, 200), levels >= mostLooked)
		innermost(&b).Text = "u"
		same(t, "lists at many places, of which the first differs", a, b, levels >= mostLooked)
	}
	for _, size := range []int{1, 2, 30, 1 << 16} {
		a, b := windows(4, size), windows(4, size)
		same(t, "pieces", a, b, true)
		innermost(&b.Kids[size-1]).Name = "x"
		same(t, "pieces of which one differs", a, b, false)
	}
	defer debug.SetMaxStack(debug.SetMaxStack(1 << 20))
	same(t, "very deep", nested(1<<18), nested(1<<18), true)
	same(t, "very deep, and another", nested(1<<18), nested(1<<18, leaf("A", "t")), true)
	same(t, "very wide", node("A", leaves(1<<18)...), node("A", leaves(1<<18)...), true)
	same(t, "very wide, the last differs", node("A", leaves(1<<18)...), node("A", append(leaves(1<<18-1), leaf("L", "t"))...), false)
	same(t, "very wide, one more", node("A", leaves(1<<18)...), node("A", leaves(1<<18+1)...), false)
}

// 13.2: what was handed in stays as it was.
func TestSameKeeps(t *testing.T) {
	for _, e := range mixed(500) {
		other := copyOf(e)
		before := copyOf(e)
		tree.Same(e, other)
		tree.Same(e, e)
		if !alike(e, before, all) || !alike(other, before, all) {
			t.Errorf("%+.200v is another one now", e)
		}
	}
}
