package tree_test

import (
	"reflect"
	"runtime/debug"
	"slices"
	"strconv"
	"strings"
	"testing"

	"cardcase/api"
	"cardcase/sample"
	"cardcase/tree"
)

// alikeLists tells whether two lists are the same, each element as far as so many within one another.
func alikeLists(a, b []api.Elem, levels int) bool {
	return slices.EqualFunc(a, b, func(a, b api.Elem) bool { return alike(a, b, levels) })
}

// kids holds Kids and Text against what they must answer.
func kids(t *testing.T, what string, e api.Elem, name string, want ...api.Elem) {
	t.Helper()
	if got := tree.Kids(e, name); !alikeLists(got, want, all) {
		t.Errorf("Kids of %.100q, named %.100q: %d, not %d, or others", what, name, len(got), len(want))
	}
	wanted := ""
	if len(want) > 0 {
		wanted = want[0].Text
	}
	if text, ok := tree.Text(e, name); text != wanted || ok != (len(want) > 0) {
		t.Errorf("Text of %.100q, named %.100q: %.100q and %v, not %.100q", what, name, text, ok, wanted)
	}
}

// 13.2: none of a name, one, and several with others between, in the order in which they stand; the text of the first of these.
func TestKids(t *testing.T) {
	for _, e := range []api.Elem{{}, leaf("A", "t"), {Name: "A", Kids: []api.Elem{}}, {Name: "A", Kids: leaves(2)[:0]}} {
		for _, name := range []string{"", "A", "L", "t"} {
			kids(t, "no kids", e, name)
		}
	}
	l := []api.Elem{
		leaf("B", "1"), leaf("C", ""), leaf("B", ""), {Page: 2, Name: "B", Text: "\xff", Opaque: true}, leaf("C", "2"), leaf("", "none"), node("D", leaf("B", "3"), leaf("E", "4")), leaf("b", "5"),
		{Page: -1, Name: "B", Text: "6", Kids: []api.Elem{leaf("B", "7")}}, {}, leaf("\xff", "8"), leaf("BB", "9"), {Name: "F", Opaque: true}, leaf("F", "10"),
	}
	e := node("B", l...)
	kids(t, "several", e, "B", l[0], l[2], l[3], l[8])
	kids(t, "several, the first without a text", e, "C", l[1], l[4])
	kids(t, "several, without a name", e, "", l[5], l[9])
	kids(t, "one with kids", e, "D", l[6])
	kids(t, "one with a small letter", e, "b", l[7])
	kids(t, "one whose name is no letter", e, "\xff", l[10])
	kids(t, "one with two letters", e, "BB", l[11])
	kids(t, "two, the first Opaque without a text", e, "F", l[12], l[13])
	for _, name := range []string{"A", "c", "E", "d", "1", "none", " B", "B ", "BBB", "\x00", strings.Repeat("B", 1<<20)} {
		kids(t, "none", e, name)
	}
	kids(t, "kids and a text", api.Elem{Page: 7, Name: "-", Text: "t", Opaque: true, Kids: l[:2]}, "B", l[0])
	kids(t, "the last one", node("A", leaf("B", "t"), leaf("C", "u")), "C", leaf("C", "u"))
	kids(t, "all", node("A", l[0], l[2], l[0]), "B", l[0], l[2], l[0])
	kids(t, "a kid's kid", node("A", node("B", leaf("C", "t"))), "C")
	kids(t, "the element itself", leaf("A", "t"), "A")
	for _, one := range faults() {
		e := leaf("A", "t")
		one.make(&e)
		kids(t, one.what, node("R", leaf("B", ""), e, leaf("B", "")), e.Name, e)
		kids(t, one.what+", and its kids", e, "L", slices.DeleteFunc(slices.Clone(e.Kids), func(e api.Elem) bool { return e.Name != "L" })...)
	}
	many := node("A", slices.Repeat(l, 1<<14)...)
	kids(t, "very many", many, "BB", slices.Repeat(l[11:12], 1<<14)...)
	kids(t, "very many", many, "C", slices.Repeat([]api.Elem{l[1], l[4]}, 1<<14)...)
	kids(t, "very many, none of it", many, "X")
}

// 13.2: Kids and Text of many elements.
func TestKidsMany(t *testing.T) {
	found := 0
	for _, e := range mixed(3000) {
		names := map[string][]api.Elem{"": nil, "A": nil, "X": nil}
		for _, kid := range e.Kids {
			names[kid.Name] = append(names[kid.Name], kid)
		}
		for name, want := range names {
			kids(t, "an element", e, name, want...)
			if len(want) > 1 {
				found++
			}
		}
	}
	if found < 100 {
		t.Errorf("%d times several kids of a name", found)
	}
}

// leafed holds Leaf against what it must answer.
func leafed(t *testing.T, page int, name, text string) {
	t.Helper()
	got := tree.Leaf(page, name, text)
	if got.Page != page || got.Name != name || got.Text != text || got.Opaque || len(got.Kids) != 0 {
		t.Errorf("Leaf(%d, %.100q, %.100q): %+.300v", page, name, text, got)
	}
}

// noded holds Node against what it must answer.
func noded(t *testing.T, page int, name string, list ...api.Elem) {
	t.Helper()
	got := tree.Node(page, name, list...)
	if got.Page != page || got.Name != name || got.Text != "" || got.Opaque || !alikeLists(got.Kids, list, all) {
		t.Errorf("Node(%d, %.100q, %+.300v): %+.300v", page, name, list, got)
	}
}

// 13.3: all pages, names and texts, whether or not they may be; no kids, one, and as many as one likes.
func TestLeafAndNode(t *testing.T) {
	for _, page := range []int{0, 1, 2, 3, -1, 1 << 40, -1 << 63, 1<<63 - 1} {
		for _, name := range []string{"", "A", "SyncML", "1", "\xff", "\x00", strings.Repeat("A", 33), strings.Repeat("A", 1<<20)} {
			for _, text := range []string{"", "t", "a b\n", "é", "\xff", "\x00", strings.Repeat("t", 4001), strings.Repeat("t", 1<<20)} {
				leafed(t, page, name, text)
				noded(t, page, name, tree.Leaf(page, name, text))
			}
			noded(t, page, name)
			noded(t, page, name, []api.Elem{}...)
			noded(t, page, name, leaf("B", "t"), node("C", leaf("D", "")), api.Elem{Page: 2, Name: "E", Text: "\x00", Opaque: true}, api.Elem{})
			noded(t, page, name, nested(30, leaves(3)...), leaf("B", ""), nested(13))
			noded(t, page, name, leaves(201)...)
		}
	}
	noded(t, 0, "A", leaves(1<<18)...)
	for _, one := range faults() {
		e := leaf("A", "")
		one.make(&e)
		noded(t, 0, "A", leaf("B", ""), e, leaf("B", ""))
		leafed(t, e.Page, e.Name, e.Text)
	}
	for _, e := range mixed(2000) {
		noded(t, e.Page, e.Name, e.Kids...)
	}
}

// The chapter's example, and what Check says of such elements.
func TestExample(t *testing.T) {
	e := tree.Node(0, "a", tree.Leaf(0, "b", "x"))
	if text, ok := tree.Text(e, "b"); tree.Weight(e) != 2 || text != "x" || !ok || tree.Check(e) != api.OK {
		t.Errorf("Weight %d, Text %q and %v, Check %v", tree.Weight(e), text, ok, tree.Check(e))
	}
	checks(t, "the example", tree.Leaf(0, "", "x"), api.ErrName)
	checks(t, "a leaf without a text", tree.Leaf(2, "a", ""), api.OK)
	checks(t, "a node without kids", tree.Node(1, "a"), api.OK)
	checks(t, "a leaf with a text too long", tree.Leaf(0, "a", strings.Repeat("x", 4001)), api.ErrLong)
	checks(t, "a node with 201 kids", tree.Node(0, "a", leaves(201)...), api.ErrFull)
	same(t, "a leaf and a node of nothing", tree.Leaf(0, "a", ""), tree.Node(0, "a"), true)
	// As whole values, too: what has no list gets none.
	if want := (api.Elem{Name: "a", Kids: []api.Elem{{Name: "b", Text: "x"}}}); !reflect.DeepEqual(e, want) || !reflect.DeepEqual(tree.Kids(e, "b"), want.Kids) {
		t.Errorf("%+v and %+v, not %+v", e, tree.Kids(e, "b"), want)
	}
}

// handsOut holds what Kids and Node hand out of a list, as they must, apart from what was handed in and from one another.
func handsOut(t *testing.T, what string, of func() []api.Elem, levels int, mayMeet bool) {
	t.Helper()
	for name, call := range map[string]func(l []api.Elem) []api.Elem{
		"Kids": func(l []api.Elem) []api.Elem {
			e := api.Elem{Kids: l}
			if len(l) == 0 {
				return tree.Kids(e, "")
			}
			return tree.Kids(e, l[0].Name)
		},
		"Node": func(l []api.Elem) []api.Elem { return tree.Node(0, "A", l...).Kids },
	} {
		l, want := of(), of()
		if name == "Kids" && len(want) > 0 {
			want = slices.DeleteFunc(slices.Clone(want), func(e api.Elem) bool { return e.Name != l[0].Name })
		}
		first, second := call(l), call(l)
		if shares(l, first) || shares(l, second) || shares(first, second) {
			t.Errorf("%s of %s: a list is another's", name, what)
		}
		if meets(first) && !mayMeet {
			t.Errorf("%s of %s: two lists share one", name, what)
		}
		spoil(first)
		_ = append(first, api.Elem{Name: "spoilt"})
		if !alikeLists(l, of(), levels) || !alikeLists(second, want, levels) {
			t.Errorf("%s of %s: what was handed in, or out, is spoilt", name, what)
		}
		spoil(l)
		if !alikeLists(second, want, levels) {
			t.Errorf("%s of %s: what was handed out is spoilt", name, what)
		}
		for at := range placesOf(second) {
			if cap(at.Kids) > len(at.Kids) {
				t.Fatalf("%s of %s: room behind a list", name, what)
			}
		}
	}
}

// The rules that hold everywhere: what was handed in stays as it was, and is not kept; what is handed out is nobody else's.
func TestKidsApart(t *testing.T) {
	for _, e := range append(small(mixed(1000)), bush(300), nested(50, leaves(5)...), node("A", node("B", leaves(3)...), node("B", leaves(2)...)), api.Elem{}) {
		handsOut(t, "an element", func() []api.Elem { return copyOf(e).Kids }, all, false)
	}
	handsOut(t, "lists with room behind", func() []api.Elem {
		l := append(make([]api.Elem, 0, 50), node("A"), node("A"), node("B"))
		for i := range l {
			l[i].Kids = append(make([]api.Elem, 0, 50), leaves(i)...)
		}
		return l
	}, all, false)
	// One list at several places, and pieces of one: what is handed out is apart all the same.
	handsOut(t, "one list twice", func() []api.Elem {
		one := leaves(3)
		return []api.Elem{node("A", leaf("B", "")), {Name: "A", Kids: one}, {Name: "A", Kids: []api.Elem{{Name: "C", Kids: one}, {Name: "C", Kids: one[1:]}}}}
	}, all, false)
	for levels := range 8 {
		handsOut(t, strconv.Itoa(levels)+" levels of one list", func() []api.Elem { return multiplied(levels, 4).Kids }, all, false)
	}
	for size := range 12 {
		handsOut(t, strconv.Itoa(size)+" pieces", func() []api.Elem { return windows(2, size).Kids }, all, false)
	}
}

// P1, 13.2 and 13.3: Kids, Text and Node of elements that lie within themselves, and of lists that stand in more places than anybody can go through.
func TestKidsRings(t *testing.T) {
	for shape := range sample.ElemRings() {
		handsOut(t, shape, func() []api.Elem { return sample.ElemRings()[shape].Kids }, 3, true)
		handsOut(t, shape+", within", func() []api.Elem { return []api.Elem{leaf("B", "t"), nested(25, sample.ElemRings()[shape])} }, 28, true)
		e := sample.ElemRings()[shape]
		got := tree.Node(0, "A", e.Kids...)
		same(t, shape, got, api.Elem{Name: "A", Kids: e.Kids}, true)
		if len(placesOf(got.Kids)) != len(placesOf(e.Kids)) {
			t.Errorf("Node of %s: %d elements, not %d", shape, len(placesOf(got.Kids)), len(placesOf(e.Kids)))
		}
		for _, name := range []string{"A", "B", "C", "D", "", "X"} {
			count, text := 0, ""
			for _, kid := range e.Kids {
				if kid.Name == name {
					count++
				}
			}
			if got := tree.Kids(e, name); len(got) != count || count > 0 && (got[0].Name != name || shares(got, e.Kids)) {
				t.Errorf("Kids of %s, named %q: %d, not %d", shape, name, len(got), count)
			}
			if got, ok := tree.Text(e, name); got != text || ok != (count > 0) {
				t.Errorf("Text of %s, named %q: %q and %v", shape, name, got, ok)
			}
		}
	}
	e := multiplied(39, 200)
	innermost(&e).Text = "u"
	got := tree.Kids(e, "M")
	if len(got) != 200 || shares(got, e.Kids) || len(placesOf(got)) > 39*200+1 {
		t.Errorf("%d kids, or a list is another's", len(got))
	}
	for level := range 38 {
		if len(got) != 200 || got[level].Name != "M" || got[199].Text != "" {
			t.Fatalf("%d kids, %d levels deep", len(got), level)
		}
		got = got[level].Kids
	}
	if len(got) != 200 || got[0].Text != "u" || got[1].Text != "t" || got[199].Name != "L" {
		t.Errorf("%d kids, 39 levels deep", len(got))
	}
	got = tree.Node(1, "A", e.Kids...).Kids
	if !tree.Same(node("A", got...), node("A", e.Kids...)) || shares(got, e.Kids) {
		t.Error("Node of one list at very many places: another one, or a list is another's")
	}
}

// P1, 13.2 and 13.3: Kids, Text and Node of very long lists and of very deep elements, without more stack.
func TestKidsAnything(t *testing.T) {
	defer debug.SetMaxStack(debug.SetMaxStack(1 << 20))
	e := windows(4, 1<<8)
	got := tree.Kids(e, "W")
	if shares(got, e.Kids) || len(placesOf(got)) != len(placesOf(e.Kids)) || !tree.Same(node("A", got...), node("A", e.Kids...)) {
		t.Errorf("Kids of lists in pieces: %d, or others, or another's", len(got))
	}
	e = windows(4, 1<<16)
	got = tree.Kids(e, "W")
	if !tree.Same(api.Elem{Kids: got}, api.Elem{Kids: e.Kids}) {
		t.Errorf("Kids of very long lists in pieces: %d, or others", len(got))
	}
	for mine, other := got, e.Kids; len(mine) > 0; mine, other = mine[len(mine)/2].Kids, other[len(other)/2].Kids {
		if &mine[0] == &other[0] || &mine[len(mine)-1] == &other[len(other)-1] {
			t.Error("Kids of very long lists in pieces: a list is another's")
		}
	}
	for _, count := range []int{1 << 16, 1<<18 + 1} {
		got := tree.Kids(nested(count, leaf("A", "t")), "N")
		deep := 1
		for ; len(got) == 1 && got[0].Name == "N"; got = got[0].Kids {
			deep++
		}
		if deep != count || len(got) != 1 || got[0].Text != "t" {
			t.Errorf("Kids of elements %d deep: %d deep", count, deep)
		}
	}
	// About as many as a copy has so that each list stands at one place, in any case
	for _, count := range []int{1<<18 - 3, 1<<18 - 2, 1<<18 - 1} {
		wide := append(leaves(count), node("A", leaf("B", "t")))
		got := tree.Node(0, "A", wide...).Kids
		if len(got) != count+1 || got[0].Name != "L" || got[count-1].Name != "L" || !alike(got[count], wide[count], all) || &got[count].Kids[0] == &wide[count].Kids[0] {
			t.Errorf("Node of %d elements: %d, or others", count+1, len(got))
		}
	}
	// More than are counted, but each list at one place: the lists are apart.
	if got := tree.Node(0, "A", slices.Repeat([]api.Elem{node("B", leaves(3)...), leaf("C", "")}, 1<<8)...); meets(got.Kids) {
		t.Error("two lists share one")
	}
}

// 13.2: what was handed in stays as it was.
func TestKidsKeeps(t *testing.T) {
	for _, e := range mixed(500) {
		before := copyOf(e)
		tree.Kids(e, "B")
		tree.Text(e, "B")
		tree.Node(0, "A", e.Kids...)
		tree.Kids(e, "")
		if !alike(e, before, all) {
			t.Errorf("%+.200v is another one now", e)
		}
	}
}
