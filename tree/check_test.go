package tree_test

import (
	"runtime/debug"
	"slices"
	"strings"
	"testing"

	"cardcase/api"
	"cardcase/sample"
	"cardcase/tree"
)

// checks holds Check against what it must answer.
func checks(t *testing.T, what string, e api.Elem, want api.Errno) {
	t.Helper()
	if got := tree.Check(e); got != want {
		t.Errorf("Check of %.100q: %v, not %v", what, got, want)
	}
}

// A fault is something that is wrong with an element alone.
type fault struct {
	what string
	make func(e *api.Elem)
	e    api.Errno
}

// faults are such ones, of each kind that 13.1 names one at least, in its order.
func faults() []fault {
	text := func(text string) func(e *api.Elem) { return func(e *api.Elem) { e.Text = text } }
	named := func(name string) func(e *api.Elem) { return func(e *api.Elem) { e.Name = name } }
	paged := func(page int) func(e *api.Elem) { return func(e *api.Elem) { e.Page = page } }
	return []fault{
		{"page -1", paged(-1), api.ErrKind},
		{"page 3", paged(3), api.ErrKind},
		{"no name", named(""), api.ErrName},
		{"a name with a digit first", named("1A"), api.ErrName},
		{"a name with a blank", named("A B"), api.ErrName},
		{"a name too long", named(strings.Repeat("A", mostName+1)), api.ErrName},
		{"201 kids", func(e *api.Elem) { e.Kids = leaves(mostKids + 1) }, api.ErrFull},
		{"a text and a kid", func(e *api.Elem) { e.Text, e.Kids = "t", append(e.Kids, leaf("K", "")) }, api.ErrState},
		{"bytes and a kid", func(e *api.Elem) { e.Text, e.Opaque, e.Kids = "t", true, append(e.Kids, leaf("K", "t")) }, api.ErrState},
		{"a text too long", text(strings.Repeat("t", mostText+1)), api.ErrLong},
		{"bytes too long", func(e *api.Elem) { e.Text, e.Opaque = strings.Repeat("\x00", mostText+1), true }, api.ErrLong},
		{"Opaque without a text", func(e *api.Elem) { e.Text, e.Opaque = "", true }, api.ErrField},
		{"a byte below 32", func(e *api.Elem) { e.Text, e.Opaque = e.Text+"\x00", false }, api.ErrField},
		{"no letters", func(e *api.Elem) { e.Text, e.Opaque = "\xff"+e.Text, false }, api.ErrField},
	}
}

// 13.1: each error alone, in an element at any place, and each pair of them in one element.
func TestCheckFaults(t *testing.T) {
	for i, one := range faults() {
		e := leaf("A", "")
		one.make(&e)
		checks(t, one.what, e, one.e)
		checks(t, one.what+", within another", node("A", e), one.e)
		checks(t, one.what+", behind another", node("A", leaf("B", "t"), node("C", leaf("D", "")), e), one.e)
		checks(t, one.what+", 12 deep", nested(mostDeep-1, e), map[bool]api.Errno{true: api.ErrDeep, false: one.e}[len(e.Kids) > 0])
		checks(t, one.what+", 13 deep", nested(mostDeep, e), api.ErrDeep)
		for j, other := range faults() {
			both := leaf("A", "")
			one.make(&both)
			other.make(&both)
			// The second one may undo the first.
			if want := faultWords(both); want != one.e && want != other.e && j > i {
				t.Fatalf("%s and %s: %v", one.what, other.what, want)
			}
			checks(t, one.what+" and "+other.what, both, faultWords(both))
			checks(t, one.what+" and "+other.what+", within", node("A", leaf("B", "t"), both), faultWords(both))
		}
	}
}

// 13.1: of one element, what is named first is told, whatever else is wrong with it.
func TestCheckOrder(t *testing.T) {
	long := strings.Repeat("\x00", mostText+1)
	kids := leaves(mostKids + 1)
	e := api.Elem{Page: 3, Name: "-", Text: long, Kids: kids}
	for _, opaque := range []bool{false, true} {
		e.Opaque = opaque
		e.Page, e.Name, e.Kids, e.Text = 3, "-", kids, long
		checks(t, "all", e, api.ErrKind)
		e.Page = 2
		checks(t, "all but the page", e, api.ErrName)
		e.Name = "A"
		checks(t, "kids and a text", e, api.ErrFull)
		e.Kids = kids[1:]
		checks(t, "a text too long and kids", e, api.ErrState)
		e.Kids = nil
		checks(t, "a text too long that may not be", e, api.ErrLong)
		e.Text = long[1:]
		checks(t, "a text that may not be", e, map[bool]api.Errno{false: api.ErrField, true: api.OK}[opaque])
		e.Text = ""
		checks(t, "no text", e, map[bool]api.Errno{false: api.OK, true: api.ErrField}[opaque])
		// Each pair, with nothing else wrong
		for _, one := range []struct {
			e    api.Elem
			want api.Errno
		}{
			{api.Elem{Page: -1, Name: ""}, api.ErrKind},
			{api.Elem{Page: -1, Name: "A", Kids: kids}, api.ErrKind},
			{api.Elem{Page: -1, Name: "A", Kids: kids[:1], Text: "t"}, api.ErrKind},
			{api.Elem{Page: -1, Name: "A", Text: strings.Repeat("t", mostText+1)}, api.ErrKind},
			{api.Elem{Page: -1, Name: "A", Text: "\x00"}, api.ErrKind},
			{api.Elem{Name: "", Kids: kids}, api.ErrName},
			{api.Elem{Name: "", Kids: kids[:1], Text: "t"}, api.ErrName},
			{api.Elem{Name: "", Text: strings.Repeat("t", mostText+1)}, api.ErrName},
			{api.Elem{Name: "", Text: "\x00"}, api.ErrName},
			{api.Elem{Name: "A", Kids: kids, Text: "t"}, api.ErrFull},
			{api.Elem{Name: "A", Kids: kids, Text: strings.Repeat("t", mostText+1)}, api.ErrFull},
			{api.Elem{Name: "A", Kids: kids, Text: "\x00"}, api.ErrFull},
			{api.Elem{Name: "A", Kids: kids[:1], Text: strings.Repeat("t", mostText+1)}, api.ErrState},
			{api.Elem{Name: "A", Kids: kids[:1], Text: "\x00"}, api.ErrState},
			{api.Elem{Name: "A", Text: strings.Repeat("t", mostText) + "\x00"}, api.ErrLong},
		} {
			one.e.Opaque = opaque && one.e.Text != ""
			checks(t, one.e.Name+one.e.Text, one.e, one.want)
		}
		checks(t, "a kid, Opaque without a text", api.Elem{Name: "A", Opaque: opaque, Kids: kids[:1]}, map[bool]api.Errno{false: api.OK, true: api.ErrField}[opaque])
		checks(t, "201 kids, Opaque without a text", api.Elem{Name: "A", Opaque: opaque, Kids: kids}, api.ErrFull)
		checks(t, "no name, Opaque without a text", api.Elem{Opaque: opaque}, api.ErrName)
		checks(t, "no page, Opaque without a text", api.Elem{Page: 4, Name: "A", Opaque: opaque}, api.ErrKind)
	}
}

// full are the places of an element, and of all within it, each ahead of its kids.
func full(e *api.Elem) []*api.Elem {
	l := []*api.Elem{e}
	for i := range e.Kids {
		l = append(l, full(&e.Kids[i])...)
	}
	return l
}

// 13.1: of two elements, the one that is ahead is told of, whatever is wrong with each.
func TestCheckTwo(t *testing.T) {
	e := node("A", node("B", node("C"), node("D", leaf("E", "t"))), leaf("F", "t"), node("G", node("H", node("I"), node("J")), node("K")))
	checks(t, "nothing wrong", e, api.OK)
	count := len(full(&e))
	for i := range count {
		for j := i + 1; j < count; j++ {
			for _, one := range faults() {
				for _, other := range faults() {
					both := copyOf(e)
					l := full(&both)
					// What the elements have would be gone, or have something wrong with it, too.
					if len(l[i].Kids) > 0 && one.e != api.ErrKind && one.e != api.ErrName {
						continue
					}
					other.make(l[j])
					one.make(l[i])
					if want := faultWords(*l[i]); want != one.e {
						t.Fatalf("%s: %v", one.what, want)
					}
					checks(t, one.what+", and behind it "+other.what, both, one.e)
				}
			}
		}
	}
}

// 13.1: 12 within one another and more of them, and what lies too deep among the first 5000 and behind them.
func TestCheckDeep(t *testing.T) {
	for count := 1; count <= mostDeep; count++ {
		checks(t, "elements within one another", nested(count), api.OK)
		checks(t, "elements within one another, with a text", nested(max(count-1, 1), leaf("A", "t")), api.OK)
		checks(t, "elements behind others", node("A", leaf("B", ""), nested(min(count, mostDeep-1)), node("C", leaf("D", ""))), api.OK)
	}
	for _, count := range []int{13, 14, 15, 20, 21, 22, 100, 1000, 1 << 18} {
		checks(t, "too many elements within one another", nested(count), api.ErrDeep)
		checks(t, "too many elements behind others", node("A", leaf("B", ""), nested(count), leaf("C", "")), api.ErrDeep)
		checks(t, "too many elements ahead of others", node("A", nested(count), bush(mostCounted)), api.ErrDeep)
	}
	checks(t, "one too deep, behind others", node("A", leaf("B", ""), nested(mostDeep)), api.ErrDeep)
	checks(t, "one too deep, as the last kid", nested(mostDeep, leaf("A", "")), api.ErrDeep)
	checks(t, "one too deep, behind ones as deep as they may lie", node("A", nested(mostDeep-1), nested(mostDeep-1), nested(mostDeep)), api.ErrDeep)
	for _, ahead := range [][]api.Elem{{}, {nested(11)}, {bush(100), nested(5), leaf("A", "t")}, {bush(1500)}, slices.Repeat([]api.Elem{nested(11)}, 300), slices.Repeat([]api.Elem{bush(400)}, 12)} {
		have := tree.Weight(node("A", ahead...))
		// The one that lies too deep is behind the element, those that are ahead, some leaves, and eleven others.
		for _, place := range []int{have + 13, mostElems, mostElems + 1, mostCounted - 1, mostCounted, mostCounted + 1, mostCounted + 2, mostCounted + 5000} {
			if place < have+12 {
				continue
			}
			kids := slices.Concat(ahead, leaves(place-have-12), []api.Elem{nested(mostDeep)})
			want := api.ErrDeep
			if place > mostCounted {
				want = api.ErrFull
			}
			checks(t, "one too deep, behind very many", node("A", kids...), want)
			checks(t, "one too deep, behind very many, with others behind", node("A", append(kids, nested(1000))...), want)
		}
	}
	// What lies deeper still is not counted among the first 5000.
	checks(t, "very many too deep", node("A", nested(mostDeep-1, node("B", bush(9000).Kids...))), api.ErrDeep)
	// Each error that an element alone may have is behind these.
	for _, one := range faults() {
		e := nested(mostDeep + 1)
		one.make(&e)
		e.Kids = []api.Elem{nested(mostDeep)}
		checks(t, one.what+", and too deep", e, api.ErrDeep)
		checks(t, one.what+", and very many", func() api.Elem { e := leaf("A", ""); one.make(&e); return node("A", e, bush(mostElems)) }(), api.ErrFull)
	}
}

// 13.1: 2000 elements and more of them.
func TestCheckFull(t *testing.T) {
	for _, count := range []int{1, 2, 200, 201, 202, 1999, 2000} {
		checks(t, "elements", bush(count), api.OK)
	}
	for _, count := range []int{2001, 2002, 4999, 5000, 5001, 40000} {
		checks(t, "too many elements", bush(count), api.ErrFull)
		wrong := bush(count)
		wrong.Page, wrong.Name = -1, ""
		checks(t, "too many elements, with others wrong", wrong, api.ErrFull)
	}
	checks(t, "too many elements, and one too deep, behind", node("A", append(bush(2500).Kids, nested(mostDeep))...), api.ErrDeep)
	checks(t, "too many elements, and one too deep, ahead", node("A", append([]api.Elem{nested(mostDeep)}, bush(2500).Kids...)...), api.ErrDeep)
	checks(t, "too many kids, and a kid wrong", node("A", slices.Concat(leaves(200), []api.Elem{{}})...), api.ErrFull)
	for _, count := range []int{199, 200} {
		checks(t, "kids", node("A", leaves(count)...), api.OK)
		checks(t, "kids, 12 deep", nested(mostDeep-1, leaves(count)...), api.OK)
	}
	for _, count := range []int{201, 202, 1999, 1 << 16} {
		checks(t, "too many kids", node("A", leaves(count)...), api.ErrFull)
		checks(t, "too many kids, within", node("A", leaf("B", "t"), node("A", leaves(count)...)), api.ErrFull)
	}
	// Ten of 199 leaves each, with the one around them, are 2001.
	ten := node("A", slices.Repeat([]api.Elem{node("B", leaves(199)...)}, 10)...)
	checks(t, "2001", ten, api.ErrFull)
	ten.Kids[9].Kids = leaves(198)
	checks(t, "2000", ten, api.OK)
}

// 13.1: pages and names.
func TestCheckNames(t *testing.T) {
	for page := -300; page <= 300; page++ {
		want := api.ErrKind
		if page >= 0 && page <= 2 {
			want = api.OK
		}
		checks(t, "a page", api.Elem{Page: page, Name: "A"}, want)
	}
	for _, page := range []int{-1 << 63, -1 << 32, 1 << 32, 1<<32 + 1, 1<<63 - 1} {
		checks(t, "a page far off", api.Elem{Page: page, Name: "A"}, api.ErrKind)
	}
	named := func(name string, want api.Errno) {
		t.Helper()
		checks(t, "the name "+name, api.Elem{Name: name}, want)
		checks(t, "the name "+name+", within", node("A", leaf("B", "t"), api.Elem{Page: 2, Name: name, Text: "t"}), want)
	}
	for _, name := range []string{"A", "Z", "a", "z", "SyncML", "A0", "z9", "a1B2", "MAX", strings.Repeat("A", 31), strings.Repeat("z", 32), "A" + strings.Repeat("0", 31)} {
		named(name, api.OK)
	}
	for _, name := range []string{"", "0", "9", "1A", " ", " A", "A ", "A-", "A_B", "A.B", "A:B", "\xc3\x89", "Aé", "\xff", "A\x00", "\x00A", "A\n", strings.Repeat("A", 33), strings.Repeat("z", 64), "A" + strings.Repeat("0", 32), strings.Repeat("A", 1<<20)} {
		named(name, api.ErrName)
	}
	for n, b := range sample.Bytes() {
		isLetter := n >= 'A' && n <= 'Z' || n >= 'a' && n <= 'z'
		isDigit := n >= '0' && n <= '9'
		for _, ahead := range []string{"", "A", strings.Repeat("x", 15), strings.Repeat("x", 31), strings.Repeat("x", 32)} {
			for _, behind := range []string{"", "z", strings.Repeat("y", 16)} {
				name := ahead + b + behind
				want := api.ErrName
				if len(name) <= mostName && (isLetter || isDigit && ahead != "") {
					want = api.OK
				}
				named(name, want)
			}
		}
	}
}

// 13.1: each byte, and what is UTF-8 and what is not, in elements that are Opaque and in ones that are not.
func TestCheckTexts(t *testing.T) {
	around := func(text string, may bool) {
		t.Helper()
		for _, one := range []string{text, "a" + text, text + "b", "é" + text + "\n", text + text, strings.Repeat("x", mostText-len(text)) + text, text + strings.Repeat("x", mostText-len(text)), "x" + text + strings.Repeat("\t", mostText-len(text)-1)} {
			want := api.ErrField
			if may {
				want = api.OK
			}
			checks(t, one, leaf("A", one), want)
			checks(t, one+", within", node("A", node("B"), leaf("A", one)), want)
			checks(t, one+", Opaque", api.Elem{Name: "A", Text: one, Opaque: true}, api.OK)
			checks(t, one+", too long", leaf("A", one+strings.Repeat("x", mostText+1-len(one))), api.ErrLong)
			checks(t, one+", too long, Opaque", api.Elem{Name: "A", Text: one + strings.Repeat("x", mostText+1-len(one)), Opaque: true}, api.ErrLong)
		}
	}
	for n, b := range sample.Bytes() {
		around(b, n == 9 || n == 10 || n >= 32 && n <= 127)
	}
	for _, text := range []string{
		"\u0080", "é", "\u07ff", "\u0800", "€", "\ud7ff", "\ue000", "\ufeff", "\ufffd", "\ufffe", "\uffff", "\U00010000", "\U0010ffff", "e\u0301", "\u2028", "\u0085", "a b", "\t", "\n", "<&>", "\x7f",
	} {
		around(text, true)
	}
	for _, text := range []string{
		// cut short, or with something else within
		"\xc3", "\xe2\x82", "\xe2", "\xf0\x9f\x98", "\xf0\x9f", "\xf0", "\xc3\xc3\xa9", "\xe2\x82a", "\xf0\x9f\x98\xc3\xa9", "\xc3\x28",
		// without a beginning
		"\x80", "\xbf", "\xc3\xa9\xa9", "\xe2\x82\xac\x80",
		// longer than need be
		"\xc0\x80", "\xc0\x89", "\xc1\xbf", "\xe0\x80\x80", "\xe0\x9f\xbf", "\xf0\x80\x80\x80", "\xf0\x8f\xbf\xbf", "\xf8\x80\x80\x80\x80", "\xfc\x80\x80\x80\x80\x80",
		// surrogates
		"\xed\xa0\x80", "\xed\xaf\xbf", "\xed\xb0\x80", "\xed\xbf\xbf", "\xed\xa0\xbd\xed\xb8\x80",
		// beyond 10ffff
		"\xf4\x90\x80\x80", "\xf5\x80\x80\x80", "\xf7\xbf\xbf\xbf", "\xfe", "\xff",
		// right, with a byte that may not be
		"\r\n", "é\x00", "\x1f€", "\x0b", "\x0c", "\x1b[",
	} {
		around(text, false)
	}
	for _, count := range []int{1, 2, 3999, 4000} {
		checks(t, "a text", leaf("A", strings.Repeat("t", count)), api.OK)
		checks(t, "bytes", api.Elem{Name: "A", Text: strings.Repeat("\x00", count), Opaque: true}, api.OK)
	}
	for _, count := range []int{4001, 4002, 8000, 1 << 24} {
		checks(t, "a text too long", leaf("A", strings.Repeat("t", count)), api.ErrLong)
		checks(t, "bytes too long", api.Elem{Name: "A", Text: strings.Repeat("\xff", count), Opaque: true}, api.ErrLong)
	}
	// It is bytes that count, not letters.
	checks(t, "2000 letters", leaf("A", strings.Repeat("é", 2000)), api.OK)
	checks(t, "2001 letters", leaf("A", strings.Repeat("é", 2001)), api.ErrLong)
}

// 13.1: a text, Opaque and kids, each there or not; nil and empty lists.
func TestCheckParts(t *testing.T) {
	for _, text := range []string{"", "t"} {
		for _, kids := range [][]api.Elem{nil, {}, leaves(3)[:0], leaves(1), leaves(200)} {
			for _, opaque := range []bool{false, true} {
				want := api.OK
				switch {
				case text != "" && len(kids) > 0:
					want = api.ErrState
				case opaque && text == "":
					want = api.ErrField
				}
				for page := range 3 {
					e := api.Elem{Page: page, Name: "A", Text: text, Opaque: opaque, Kids: kids}
					checks(t, "an element", e, want)
					checks(t, "a kid", api.Elem{Page: 2 - page, Name: "A", Kids: []api.Elem{e}}, want)
				}
			}
		}
	}
}

// 13.1: Check of many elements.
func TestCheckMany(t *testing.T) {
	count := map[api.Errno]int{}
	for _, e := range mixed(10000) {
		want := checkWords(e)
		if count[want]++; tree.Check(e) != want {
			t.Fatalf("Check of %+.2000v: %v, not %v", e, tree.Check(e), want)
		}
	}
	for _, e := range []api.Errno{api.OK, api.ErrDeep, api.ErrFull, api.ErrKind, api.ErrName, api.ErrState, api.ErrLong, api.ErrField} {
		if count[e] < 50 {
			t.Errorf("%d elements were %v", count[e], e)
		}
	}
}

// P1 and 13.1: elements within themselves, lists that stand in more places than anybody can go through, ones too deep and too long: Check and Weight end, without more stack.
func TestCheckAnything(t *testing.T) {
	for shape, e := range sample.ElemRings() {
		checks(t, shape, e, api.ErrDeep)
		checks(t, shape+", within", node("A", e), api.ErrDeep)
		checks(t, shape+", behind", node("A", append(leaves(6000), e)...), api.ErrFull)
		weighs(t, shape, e, mostCounted)
	}
	for levels := range 40 {
		for _, times := range []int{1, 2, 200} {
			e := multiplied(levels, times)
			checks(t, "lists at many places", e, checkWords(e))
			weighs(t, "lists at many places", e, weightWords(e))
		}
	}
	defer debug.SetMaxStack(debug.SetMaxStack(1 << 20))
	for _, e := range []api.Elem{
		nested(1 << 18), node("A", leaves(1<<20)...), nested(1<<10, leaves(1<<20)...), {Kids: slices.Repeat([]api.Elem{nested(1 << 10), leaf(strings.Repeat("a", 1<<20), strings.Repeat("b", 1<<20))}, 1<<10)},
	} {
		want := api.ErrFull
		if len(e.Kids) < 1<<20 {
			want = api.ErrDeep
		}
		checks(t, "anything", e, want)
		weighs(t, "anything", e, mostCounted)
	}
}

// multiplied is an element whose one list of kids stands so many times in another, which stands so many times in another, and so on.
func multiplied(levels, times int) api.Elem {
	e := leaf("L", "t")
	for range levels {
		e = node("M", slices.Repeat([]api.Elem{e}, times)...)
	}
	return e
}

// weighs holds Weight against what it must answer.
func weighs(t *testing.T, what string, e api.Elem, want int) {
	t.Helper()
	if got := tree.Weight(e); got != want {
		t.Errorf("Weight of %.100q: %d, not %d", what, got, want)
	}
}

// 13.1: Weight of wide elements, of deep ones and of others.
func TestWeight(t *testing.T) {
	weighs(t, "nothing", api.Elem{}, 1)
	weighs(t, "no kids", api.Elem{Name: "A", Text: "t", Kids: []api.Elem{}}, 1)
	weighs(t, "a kid", node("A", leaf("B", "t")), 2)
	weighs(t, "a kid's kid", node("A", node("B", leaf("C", ""))), 3)
	for _, count := range []int{1, 2, 3, 12, 13, 20, 21, 22, 200, 201, 202, 1999, 2000, 2001, 4998, 4999, 5000, 5001, 5002, 10000, 40000, 1 << 20} {
		want := min(count, 5000)
		weighs(t, "wide", node("A", leaves(count-1)...), want)
		weighs(t, "deep", nested(count), want)
		weighs(t, "a bush", bush(count), want)
		if count > 2 {
			weighs(t, "deep and wide", nested(count/2, leaves(count-count/2)...), want)
			weighs(t, "wide and deep", node("A", append(leaves(count/2), nested(count-count/2-1))...), want)
			weighs(t, "deep, then wide", node("A", append([]api.Elem{nested(count - count/2 - 1)}, leaves(count/2)...)...), want)
			weighs(t, "two", node("A", slices.Repeat([]api.Elem{nested((count - 1) / 2)}, 2)...), min(1+(count-1)/2*2, 5000))
		}
	}
	for _, one := range faults() {
		e := leaf("A", "")
		one.make(&e)
		weighs(t, one.what, e, 1+len(e.Kids))
	}
	for _, e := range mixed(5000) {
		weighs(t, "an element", e, weightWords(e))
	}
}

// 13.1: what was handed in stays as it was.
func TestCheckKeeps(t *testing.T) {
	for _, e := range append(mixed(500), bush(3000), nested(50)) {
		before := copyOf(e)
		tree.Check(e)
		tree.Weight(e)
		if !alike(e, before, all) {
			t.Errorf("%+.200v is another one now", e)
		}
	}
	// Once the deeper one is looked at, not a moment longer, the answers are the same again.
	e := nested(mostDeep + 1)
	checks(t, "13", e, api.ErrDeep)
	checks(t, "12", e.Kids[0], api.OK)
	checks(t, "13", e, api.ErrDeep)
}
