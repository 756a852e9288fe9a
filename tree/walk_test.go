package tree_test

import (
	"runtime/debug"
	"slices"
	"strings"
	"testing"

	"cardcase/api"
	"cardcase/sample"
	"cardcase/tree"
)

// walked are the first steps, so many at the most, that Walk tells.
func walked(e api.Elem, most int) []step {
	var l []step
	for deep, x := range tree.Walk(e) {
		if l = append(l, step{deep, x}); len(l) == most {
			break
		}
	}
	return l
}

// told holds the steps that Walk told against those that it must tell, each as far as so many elements within one another.
func told(t *testing.T, what string, got, want []step, levels int) {
	t.Helper()
	if len(got) != len(want) {
		t.Errorf("Walk of %.100q: %d steps, not %d", what, len(got), len(want))
		return
	}
	for i := range got {
		if got[i].deep != want[i].deep || !alike(got[i].e, want[i].e, levels) {
			t.Errorf("Walk of %.100q: step %d is another one, %d deep, not %d", what, i, got[i].deep, want[i].deep)
			return
		}
	}
}

// 13.2: an element, and all within it, each ahead of its kids, in order, with how deep each lies.
func TestWalk(t *testing.T) {
	var said []string
	e := node("A", node("B", leaf("C", "1"), node("D", leaf("E", "2"))), leaf("F", ""), node("G", leaf("H", "3")))
	for deep, x := range tree.Walk(e) {
		said = append(said, strings.Repeat(".", deep)+x.Name+x.Text)
	}
	if got := strings.Join(said, " "); got != ".A ..B ...C1 ...D ....E2 ..F ..G ...H3" {
		t.Errorf("Walk: %s", got)
	}
	told(t, "nothing", walked(api.Elem{}, all), []step{{1, api.Elem{}}}, all)
	told(t, "a text", walked(leaf("A", "t"), all), []step{{1, leaf("A", "t")}}, all)
	told(t, "all that an element has", walked(api.Elem{Page: -7, Name: "\x00", Text: "\xff", Opaque: true, Kids: []api.Elem{}}, all), []step{{1, api.Elem{Page: -7, Name: "\x00", Text: "\xff", Opaque: true}}}, all)
	for _, one := range faults() {
		e := leaf("A", "")
		one.make(&e)
		told(t, one.what, walked(node("A", leaf("B", ""), e), all), steps(node("A", leaf("B", ""), e), all, all), all)
	}
	for _, e := range append(mixed(2000), bush(300), bush(3000)) {
		told(t, "an element", walked(e, all), steps(e, mostLooked, all), all)
	}
}

// 13.2: what lies 20 deep is told, with how many kids it has, and what lies deeper is not.
func TestWalkDeep(t *testing.T) {
	for _, count := range []int{1, 2, 19, 20, 21, 22, 1000} {
		for _, kids := range [][]api.Elem{nil, {leaf("A", "t")}, {leaf("A", "t"), node("B", leaf("C", "")), leaf("D", "")}} {
			for _, e := range []api.Elem{nested(count, kids...), node("A", leaf("B", "t"), nested(count, kids...), leaf("B", "u")), nested(10, leaf("A", ""), nested(count, kids...), leaf("C", "c"))} {
				got := walked(e, all)
				told(t, "deep elements", got, steps(e, mostLooked, all), all)
				for i, s := range got {
					if s.deep < 1 || s.deep > mostLooked || i > 0 && s.deep > got[i-1].deep+1 {
						t.Errorf("step %d: %d deep", i, s.deep)
					}
				}
			}
		}
	}
	if got := walked(nested(20, leaves(7)...), all); len(got) != 20 || got[19].deep != 20 || len(got[19].e.Kids) != 7 {
		t.Errorf("%d steps", len(got))
	}
	if got := walked(nested(19, leaves(7)...), all); len(got) != 26 || got[25].deep != 20 {
		t.Errorf("%d steps", len(got))
	}
}

// 13.2: as far as one likes: it is left at each place, and goes on at none.
func TestWalkLeft(t *testing.T) {
	for _, e := range []api.Elem{{}, node("A", node("B", leaf("C", "1"), node("D", leaf("E", "2"))), leaf("F", ""), node("G", leaf("H", "3"))), nested(25), bush(250)} {
		want := steps(e, mostLooked, all)
		walk := tree.Walk(e)
		for most := range len(want) + 2 {
			count := 0
			walk(func(deep int, x api.Elem) bool {
				if count++; count > max(most, 1) {
					t.Errorf("a step behind %d", most)
				}
				return count < most
			})
			if count != min(max(most, 1), len(want)) {
				t.Errorf("%d steps, not %d", count, most)
			}
			told(t, "an element", walked(e, max(most, 1)), want[:min(max(most, 1), len(want))], all)
		}
		// Once more, and within itself
		count := 0
		for range walk {
			for range walk {
				count++
			}
		}
		if count != len(want)*len(want) {
			t.Errorf("%d steps of %d", count, len(want))
		}
	}
	for range tree.Walk(node("A", leaf("B", ""))) {
		break
	}
}

// A panic in what takes the steps is nobody's but its own.
func TestWalkPanic(t *testing.T) {
	defer func() {
		if recover() != "mine" {
			t.Error("another panic")
		}
	}()
	for deep := range tree.Walk(nested(5)) {
		if deep == 3 {
			panic("mine")
		}
	}
	t.Error("no panic")
}

// 13.2, and the rules that hold everywhere: what was handed in stays as it was, and is not kept; what is handed out is nobody else's.
func TestWalkApart(t *testing.T) {
	for _, e := range append(small(mixed(500)), bush(250), nested(30, leaves(3)...), node("A", node("B", leaves(3)...), node("C", leaves(2)...))) {
		before := copyOf(e)
		want := steps(before, mostLooked, all)
		walk := tree.Walk(e)
		var got, again []step
		for deep, x := range walk {
			again = append(again, step{deep, x})
			if shares(e.Kids, x.Kids) || meets(x.Kids) {
				t.Fatalf("Walk of %+.200v: a list is another's", e)
			}
		}
		told(t, "an element", again, want, all)
		places := map[*api.Elem]int{}
		for _, s := range again {
			for at := range placesOf(s.e.Kids) {
				if places[at]++; places[at] > 1 {
					t.Fatalf("Walk of %+.200v: two steps share a list", before)
				}
			}
		}
		// What one does with a step is not seen in the next ones.
		for deep, x := range walk {
			got = append(got, step{deep, copyOf(x)})
			spoil(x.Kids)
		}
		told(t, "an element, each step spoilt", got, want, all)
		if !alike(e, before, all) {
			t.Fatalf("%+.200v is another one now", before)
		}
		spoil(e.Kids)
		got = nil
		for deep, x := range walk {
			got = append(got, step{deep, x})
		}
		told(t, "an element that is spoilt", got, want, all)
		told(t, "an element, from before", again, want, all)
	}
	// What is spoilt while it goes on
	e := node("A", node("B", leaf("C", "1")), node("D", leaf("E", "2")))
	want := steps(copyOf(e), all, all)
	var got []step
	for deep, x := range tree.Walk(e) {
		got = append(got, step{deep, x})
		spoil(e.Kids)
	}
	told(t, "an element that is spoilt meanwhile", got, want, all)
}

// One list at several places: each of them is told, and what is handed out is apart.
func TestWalkPlaces(t *testing.T) {
	for levels := range 6 {
		e := multiplied(levels, 3)
		got := walked(e, all)
		told(t, "lists at many places", got, steps(copyOf(e), mostLooked, all), all)
		for _, s := range got {
			if shares(e.Kids, s.e.Kids) || meets(s.e.Kids) {
				t.Errorf("%d levels: a list is another's", levels)
			}
		}
	}
}

// P1 and 13.2: Walk of elements that lie within themselves, as far as one likes.
func TestWalkRings(t *testing.T) {
	const most = 700
	for shape := range sample.ElemRings() {
		for _, around := range []func(e api.Elem) api.Elem{
			func(e api.Elem) api.Elem { return e },
			func(e api.Elem) api.Elem { return node("A", leaf("B", "t"), e) },
			func(e api.Elem) api.Elem { return nested(18, e) },
		} {
			e, before := around(sample.ElemRings()[shape]), around(sample.ElemRings()[shape])
			want := steps(before, mostLooked, most)
			walk := tree.Walk(e)
			told(t, shape, walked(e, most), want, 3)
			count := 0
			for deep, x := range walk {
				if shares(e.Kids, x.Kids) || deep != want[count].deep || !alike(x, want[count].e, 3) {
					t.Fatalf("%s: step %d is another one, or a list is another's", shape, count)
				}
				// What one does with a step is not seen in the next ones, nor is what one does with what was handed in.
				spoil(x.Kids)
				if count++; count == 100 {
					break
				}
			}
			if !alike(e, before, 4) {
				t.Errorf("%s is another one now", shape)
			}
			spoil(e.Kids)
			count = 0
			for deep, x := range walk {
				if deep != want[count].deep || !alike(x, want[count].e, 3) {
					t.Fatalf("%s: step %d is another one once it is spoilt", shape, count)
				}
				if count++; count == 100 {
					break
				}
			}
		}
	}
	if got := walked(sample.ElemRings()["itself"], all); len(got) != mostLooked {
		t.Errorf("itself: %d steps", len(got))
	}
	count := 0
	for range tree.Walk(nested(8, sample.ElemRings()["itself, twice"])) {
		count++
	}
	if count != 8+1<<(mostLooked-8)-1 {
		t.Errorf("itself, twice: %d steps", count)
	}
}

// P1 and 13.2: Walk of lists that stand in more places than anybody can go through, of very long and of very deep ones, without more stack.
func TestWalkAnything(t *testing.T) {
	defer debug.SetMaxStack(debug.SetMaxStack(1 << 20))
	for _, e := range []api.Elem{multiplied(39, 200), windows(4, 1000), nested(1 << 18), node("A", leaves(1<<18)...), node("A", slices.Repeat([]api.Elem{nested(1 << 10)}, 1<<11)...)} {
		told(t, "anything", walked(e, 30), steps(e, mostLooked, 30), 2)
	}
}
