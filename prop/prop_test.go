package prop_test

import (
	"regexp"
	"slices"
	"strings"
	"testing"

	"cardcase/api"
	"cardcase/prop"
	"cardcase/sample"
)

const (
	capitals = "ABCDEFGHIJKLMNOPQRSTUVWXYZ"
	small    = "abcdefghijklmnopqrstuvwxyz"
	// more are what stands in a name behind its first letter, too.
	more = capitals + "0123456789-"
	// plain are the bytes of a parameter's value.
	plain = "!\"#$%&'()*+,-./0123456789<>?@ABCDEFGHIJKLMNOPQRSTUVWXYZ[\\]^_`abcdefghijklmnopqrstuvwxyz{|}~"

	mostParams = 6
	mostValue  = 2400
)

// odd are texts that are neither names nor values of parameters: bytes that are no right letters, and letters whose capitals are elsewhere.
var odd = []string{"", " ", "A ", " A", "A B", "\t", "\x00", "A\x00", "\x00A", "\n", "A\n", "\r", "A\r\n", "\x1f", "\x7f", "A\x7f", "\x80", "\xff", "A\xff", "\xffA", "\xc3", "\xc3\xa9", "É", "ı", "ſ", "\u212a", "\uff21", "A\u0130", "\xed\xa0\x80", "\xf4\x90\x80\x80", "a;", ";", ";a", ":", "a:b", "=", "=a", "a=", "a=b"}

// sameProps tells whether two properties are the same, cards within them, too.
func sameProps(a, b api.Prop) bool {
	return a.Group == b.Group && a.Name == b.Name && a.Value == b.Value && slices.Equal(a.Params, b.Params) && slices.EqualFunc(a.Agent, b.Agent, sameCards)
}

// sameCards tells whether two cards are the same.
func sameCards(a, b api.Card) bool { return slices.EqualFunc(a.Props, b.Props, sameProps) }

// params are parameters of names and values, one behind the other.
func params(namesAndValues ...string) []api.Param {
	var l []api.Param
	for i := 0; i+1 < len(namesAndValues); i += 2 {
		l = append(l, api.Param{Name: namesAndValues[i], Value: namesAndValues[i+1]})
	}
	return l
}

// times is a list of so many parameters.
func times(count int, name, value string) []api.Param {
	return slices.Repeat(params(name, value), count)
}

// anAgent is a list of one card.
func anAgent() []api.Card {
	return []api.Card{{Props: []api.Prop{{Name: "FN", Params: params("", "X"), Value: "a"}}}}
}

// nameWords is 8.1's Name said once more.
func nameWords(s string) bool {
	return len(s) >= 1 && len(s) <= 32 && strings.Contains(capitals, s[:1]) && strings.Trim(s, more) == ""
}

// paramWords is what a parameter must be, said once more.
func paramWords(q api.Param) bool {
	return (q.Name == "" || nameWords(q.Name)) && len(q.Value) >= 1 && len(q.Value) <= 32 && strings.Trim(q.Value, plain) == ""
}

// checkWords is 8.1's Check said once more.
func checkWords(p api.Prop) api.Errno {
	l := []api.Errno{api.OK}
	if strings.ContainsAny(p.Value, "\x00\n\r") {
		l = append(l, api.ErrField)
	}
	if len(p.Value) > mostValue {
		l = append(l, api.ErrLong)
	}
	if len(p.Agent) != 0 {
		l = append(l, api.ErrKind)
	}
	for _, q := range p.Params {
		if !paramWords(q) {
			l = append(l, api.ErrField)
		}
	}
	if len(p.Params) > mostParams {
		l = append(l, api.ErrFull)
	}
	if !nameWords(p.Name) || p.Group != "" && !nameWords(p.Group) {
		l = append(l, api.ErrName)
	}
	// The first of all comes last here.
	return l[len(l)-1]
}

// printWords is a right property's line said once more.
func printWords(p api.Prop) string {
	var head []string
	for _, q := range append(params("", p.Name), p.Params...) {
		head = append(head, strings.TrimPrefix(q.Name+"="+q.Value, "="))
	}
	return strings.TrimPrefix(p.Group+"."+strings.Join(head, ";"), ".") + ":" + p.Value
}

// What stands at the beginning of a line, or of what is left of it, as patterns.
var (
	groupEnd  = regexp.MustCompile(`\A[^.;:]*\.`)
	groupHere = regexp.MustCompile(`\A([A-Za-z][A-Za-z0-9-]{0,31})\.`)
	nameHere  = regexp.MustCompile(`\A([A-Za-z][A-Za-z0-9-]{0,31})[;:]`)
	paramHere = regexp.MustCompile(`\A;(?:([A-Za-z][A-Za-z0-9-]{0,31})=)?([!-9<>-~]{1,32})[;:]`)
	mayNot    = regexp.MustCompile(`[\x00\n\r]`)
)

// upper is a text with capitals for small letters.
func upper(s string) string {
	for i := range len(small) {
		s = strings.ReplaceAll(s, small[i:i+1], capitals[i:i+1])
	}
	return s
}

// parseWords is 8.2's Parse said once more, by patterns.
func parseWords(s string) (api.Prop, int, api.Errno) {
	var p api.Prop
	fault := func(left string, e api.Errno) (api.Prop, int, api.Errno) { return api.Prop{}, len(s) - len(left), e }
	if !strings.Contains(s, ":") {
		return fault("", api.ErrShort)
	}
	left := s
	if groupEnd.MatchString(left) {
		m := groupHere.FindStringSubmatch(left)
		if m == nil {
			return fault(left, api.ErrName)
		}
		p.Group, left = upper(m[1]), left[len(m[0]):]
	}
	m := nameHere.FindStringSubmatch(left)
	if m == nil {
		return fault(left, api.ErrName)
	}
	for p.Name, left = upper(m[1]), left[len(m[1]):]; left[0] == ';'; left = left[len(m[0])-1:] {
		m = paramHere.FindStringSubmatch(left)
		switch {
		case len(p.Params) == mostParams:
			return fault(left[1:], api.ErrFull)
		case m == nil:
			return fault(left[1:], api.ErrField)
		case m[1] == "":
			m[2] = upper(m[2])
		}
		p.Params = append(p.Params, api.Param{Name: upper(m[1]), Value: m[2]})
	}
	p.Value = left[1:]
	if len(p.Value) > mostValue {
		return fault(p.Value, api.ErrLong)
	}
	if l := mayNot.FindStringIndex(p.Value); l != nil {
		return fault(p.Value[l[0]:], api.ErrField)
	}
	return p, 0, api.OK
}

// named holds Name against what it must answer.
func named(t *testing.T, s string, want bool) {
	t.Helper()
	if got := prop.Name(s); got != want {
		t.Errorf("Name(%q): %v", s, got)
	}
}

// wrong holds Check and Print against an error that they must answer.
func wrong(t *testing.T, p api.Prop, want api.Errno) {
	t.Helper()
	if e := prop.Check(p); e != want {
		t.Errorf("Check(%.300q): %v, not %v", p, e, want)
	}
	if line, e := prop.Print(p); e != want || line != "" {
		t.Errorf("Print(%.300q): %q and %v, not %v", p, line, e, want)
	}
}

// printed holds Check and Print against what they must answer of a property that is right.
func printed(t *testing.T, p api.Prop, want string) {
	t.Helper()
	if e := prop.Check(p); e != api.OK {
		t.Errorf("Check(%q): %v", p, e)
	}
	if line, e := prop.Print(p); e != api.OK || line != want {
		t.Errorf("Print(%q): %q and %v, not %q", p, line, e, want)
	}
}

// parsed holds Parse against what it must answer.
func parsed(t *testing.T, s string, want api.Prop, wantAt int, wantE api.Errno) {
	t.Helper()
	if p, at, e := prop.Parse(s); !sameProps(p, want) || at != wantAt || e != wantE {
		t.Errorf("Parse(%.300q): %q, %d and %v, not %q, %d and %v", s, p, at, e, want, wantAt, wantE)
	}
}

// refused holds Parse against an error that it must answer, and its place.
func refused(t *testing.T, s string, at int, e api.Errno) {
	t.Helper()
	parsed(t, s, api.Prop{}, at, e)
}

// read holds Parse against a property that it must answer.
func read(t *testing.T, s string, want api.Prop) {
	t.Helper()
	parsed(t, s, want, 0, api.OK)
}

// 8.1: Name.
func TestName(t *testing.T) {
	for _, s := range []string{"A", "Z", "M", "TEL", "X-A", "A-", "A--", "A0", "A9", "A0Z", "A-0", "A0-", "X-", "ABCDEFGHIJKLMNOPQRSTUVWXYZ", "N-0123456789"} {
		named(t, s, true)
	}
	for _, s := range []string{"0", "9", "-", "0A", "9A", "-A", "-0", "a", "aB", "Ab", "AbC", "ABc", "A.B", "A_B", "A/", "A:", "A@", "A[", "A`", "A{", "@A", "[A", "/A", "A,", "A+", "A.", ".A"} {
		named(t, s, false)
	}
	for _, s := range odd {
		named(t, s, false)
	}
	for size := range 70 {
		named(t, strings.Repeat("A", size), size >= 1 && size <= 32)
		named(t, "A"+strings.Repeat("-", size), size <= 31)
		named(t, "A"+strings.Repeat("9", size), size <= 31)
	}
	for _, size := range []int{1, 2, 31, 32, 33} {
		whole := strings.Repeat("A", size)
		for i := range size {
			for _, b := range sample.Bytes() {
				good := strings.Contains(more, b)
				if i == 0 {
					good = strings.Contains(capitals, b)
				}
				named(t, whole[:i]+b+whole[i+1:], good && size <= 32)
			}
		}
	}
}

// 8.1: Name of many texts.
func TestNameMany(t *testing.T) {
	right := 0
	l := append(sample.Texts("AZ09-az@[/:.", 4), sample.Texts(strings.Join(sample.Bytes(), ""), 2)...)
	for _, s := range append(l, sample.Mixed(30000, 40, []string{"A", "BC", "D-", "09", "XYZ", "-", "A", "a", "\xff"})...) {
		named(t, s, nameWords(s))
		if nameWords(s) {
			right++
		}
	}
	if right < 2000 {
		t.Errorf("%d texts are names", right)
	}
}

// 8.1: Check and Print of properties that are right.
func TestPrint(t *testing.T) {
	for _, one := range []struct {
		p    api.Prop
		line string
	}{
		{api.Prop{Name: "A"}, "A:"},
		{api.Prop{Name: "TEL", Value: "12"}, "TEL:12"},
		{api.Prop{Group: "HOME", Name: "TEL", Value: "12"}, "HOME.TEL:12"},
		{api.Prop{Group: "HOME", Name: "TEL", Params: params("TYPE", "work", "", "VOICE"), Value: "12"}, "HOME.TEL;TYPE=work;VOICE:12"},
		{api.Prop{Name: "A", Params: []api.Param{}, Agent: []api.Card{}}, "A:"},
		{api.Prop{Name: "A", Params: params("", "x")}, "A;x:"},
		{api.Prop{Name: "A", Params: params("X", "x")}, "A;X=x:"},
		{api.Prop{Name: "A", Params: params("X", "x", "X", "x", "", "X", "", "x")}, "A;X=x;X=x;X;x:"},
		{api.Prop{Name: "A", Params: params("X", ".", "", ".", "", "-", "", "0")}, "A;X=.;.;-;0:"},
		{api.Prop{Name: "A", Value: ":;=. \t\x01\x7f\xff\xc3"}, "A::;=. \t\x01\x7f\xff\xc3"},
		{api.Prop{Group: "A", Name: "A", Params: params("A", "A"), Value: "A"}, "A.A;A=A:A"},
		{api.Prop{Group: "X-9", Name: "Y-", Params: params("Z-0", "!~"), Value: " "}, "X-9.Y-;Z-0=!~: "},
	} {
		printed(t, one.p, one.line)
	}
	for count := range mostParams + 1 {
		printed(t, api.Prop{Name: "A", Params: times(count, "", "B")}, "A"+strings.Repeat(";B", count)+":")
		printed(t, api.Prop{Name: "A", Params: times(count, "C", "b")}, "A"+strings.Repeat(";C=b", count)+":")
	}
	for _, size := range []int{1, 31, 32} {
		name, value := strings.Repeat("N", size), strings.Repeat("v", size)
		printed(t, api.Prop{Group: name, Name: name, Params: params(name, value, "", value)}, name+"."+name+";"+name+"="+value+";"+value+":")
	}
	for _, size := range []int{0, 1, 599, 600, 601, 2399, mostValue} {
		value := strings.Repeat("\xff", size)
		printed(t, api.Prop{Name: "A", Value: value}, "A:"+value)
	}
}

// 8.1: Check and Print of a group or a name that may not be.
func TestCheckNames(t *testing.T) {
	for _, s := range append(odd, "a", "aB", "Ab", "0", "-", "0A", "-A", "A.B", strings.Repeat("A", 33)) {
		if s != "" {
			wrong(t, api.Prop{Group: s, Name: "A"}, api.ErrName)
		}
		wrong(t, api.Prop{Name: s}, api.ErrName)
		wrong(t, api.Prop{Group: "A", Name: s}, api.ErrName)
	}
}

// 8.1: Check and Print of parameters.
func TestCheckParams(t *testing.T) {
	for _, s := range append(odd, "a", "aB", "Ab", "0", "-", "0A", "-A", "A.B", strings.Repeat("A", 33)) {
		if s != "" {
			wrong(t, api.Prop{Name: "A", Params: params(s, "a")}, api.ErrField)
			wrong(t, api.Prop{Name: "A", Params: append(times(5, "B", "b"), params(s, "a")...)}, api.ErrField)
		}
	}
	for _, s := range append(odd, strings.Repeat("a", 33), strings.Repeat("a", 3300)) {
		for _, name := range []string{"", "B"} {
			wrong(t, api.Prop{Name: "A", Params: params(name, s)}, api.ErrField)
			wrong(t, api.Prop{Name: "A", Params: params(name, s, "", "b")}, api.ErrField)
			wrong(t, api.Prop{Name: "A", Params: append(times(5, "", "b"), params(name, s)...)}, api.ErrField)
		}
	}
	for name, ahead := range map[string]string{"": "A;", "B": "A;B="} {
		for _, b := range sample.Bytes() {
			for _, value := range []string{b, b + "cd", "c" + b + "d", "cd" + b, strings.Repeat("c", 31) + b} {
				p := api.Prop{Name: "A", Params: params(name, value)}
				if strings.Contains(plain, b) {
					printed(t, p, ahead+value+":")
				} else {
					wrong(t, p, api.ErrField)
				}
			}
		}
	}
	for _, count := range []int{7, 8, 12, 600} {
		wrong(t, api.Prop{Name: "A", Params: times(count, "", "B")}, api.ErrFull)
		wrong(t, api.Prop{Name: "A", Params: times(count, "C", "b")}, api.ErrFull)
	}
}

// 8.1: Check and Print of Agents, and of values.
func TestCheckValue(t *testing.T) {
	wrong(t, api.Prop{Name: "A", Agent: anAgent()}, api.ErrKind)
	wrong(t, api.Prop{Name: "AGENT", Agent: anAgent()}, api.ErrKind)
	wrong(t, api.Prop{Name: "A", Agent: []api.Card{{}}}, api.ErrKind)
	wrong(t, api.Prop{Name: "A", Agent: []api.Card{{}, {}}}, api.ErrKind)
	for _, size := range []int{mostValue + 1, mostValue + 2, 2 * mostValue, 1 << 20} {
		wrong(t, api.Prop{Name: "A", Value: strings.Repeat("a", size)}, api.ErrLong)
		wrong(t, api.Prop{Name: "A", Value: strings.Repeat("\x00", size)}, api.ErrLong)
	}
	most := strings.Repeat("a", mostValue-1)
	for _, b := range sample.Bytes() {
		for _, value := range []string{b, b + "a", "a" + b, "a" + b + "c", b + most, most[:1000] + b + most[1000:], most + b} {
			if strings.Contains("\x00\n\r", b) {
				wrong(t, api.Prop{Name: "A", Value: value}, api.ErrField)
			} else {
				printed(t, api.Prop{Name: "A", Value: value}, "A:"+value)
			}
		}
	}
}

// 8.1: of several errors the one that is named first.
func TestCheckFirst(t *testing.T) {
	groups := []string{"", "G", "g"}
	names := []string{"N", "n"}
	lists := [][]api.Param{nil, times(6, "X", "y"), times(7, "X", "y"), params("X", ""), append(times(6, "X", "y"), params("", ";")...), append(params("x", "y"), times(6, "", "y")...)}
	agents := [][]api.Card{nil, anAgent()}
	values := []string{"", "v\x00", strings.Repeat("v", mostValue+1), strings.Repeat("\n", mostValue+1)}
	for _, group := range groups {
		for _, name := range names {
			for _, list := range lists {
				for _, agent := range agents {
					for _, value := range values {
						checked(t, api.Prop{Group: group, Name: name, Params: list, Agent: agent, Value: value})
					}
				}
			}
		}
	}
	full := times(7, "x", ";")
	wrong(t, api.Prop{Group: "g", Name: "N", Params: full, Agent: anAgent(), Value: strings.Repeat("\x00", mostValue+1)}, api.ErrName)
	wrong(t, api.Prop{Group: "G", Name: "n", Params: full, Agent: anAgent(), Value: strings.Repeat("\x00", mostValue+1)}, api.ErrName)
	wrong(t, api.Prop{Group: "G", Name: "N", Params: full, Agent: anAgent(), Value: strings.Repeat("\x00", mostValue+1)}, api.ErrFull)
	wrong(t, api.Prop{Group: "G", Name: "N", Params: full[:6], Agent: anAgent(), Value: strings.Repeat("\x00", mostValue+1)}, api.ErrField)
	wrong(t, api.Prop{Group: "G", Name: "N", Agent: anAgent(), Value: strings.Repeat("\x00", mostValue+1)}, api.ErrKind)
	wrong(t, api.Prop{Group: "G", Name: "N", Value: strings.Repeat("\x00", mostValue+1)}, api.ErrLong)
	wrong(t, api.Prop{Group: "G", Name: "N", Value: strings.Repeat("\x00", mostValue)}, api.ErrField)
}

// checked holds Check and Print against 8.1's words; a line that is printed is read, and printed again (8.4).
func checked(t *testing.T, p api.Prop) {
	t.Helper()
	e := checkWords(p)
	if e != api.OK {
		wrong(t, p, e)
		return
	}
	line := printWords(p)
	printed(t, p, line)
	want := copyOf(p)
	for i, q := range want.Params {
		// As it is read: in capitals, where there is no name.
		if q.Name == "" {
			want.Params[i].Value = upper(q.Value)
		}
	}
	read(t, line, want)
	printed(t, want, printWords(want))
}

// copyOf is a property that shares no list with another.
func copyOf(p api.Prop) api.Prop {
	p.Params = slices.Clone(p.Params)
	p.Agent = slices.Clone(p.Agent)
	for i, c := range p.Agent {
		p.Agent[i].Props = nil
		for _, within := range c.Props {
			p.Agent[i].Props = append(p.Agent[i].Props, copyOf(within))
		}
	}
	return p
}

// mixedProps are properties, more of them right than wrong.
func mixedProps(count int) []api.Prop {
	names := sample.Mixed(count+9, 5, []string{"A", "B-", "TEL", "X0", "N", "A", "TYPE", "C9"})
	values := sample.Mixed(count+9, 6, []string{"a", "B", "!", "~", "-0", ".", "x,y", "Work"})
	texts := sample.Mixed(count, 8, append([]string{"a", ":", ";", "=", ".", " ", "\xff", "\x01", "é", "A"}, strings.Split("abcdefghijklmnopqrstuvwxyz", "")...))
	bad := sample.Mixed(count, 3, []string{"a", "-", "\x00", "\r\n", " ", "=", ":", "\xc3"})
	l := make([]api.Prop, count)
	for i := range l {
		p := api.Prop{Group: names[i], Name: "N" + names[i+1], Value: texts[i]}
		for j := range i % 8 {
			q := api.Param{Name: names[i+j+2], Value: "v" + values[i+j]}
			if (i/8+j)%3 == 0 {
				q.Name = ""
			}
			p.Params = append(p.Params, q)
		}
		// Seven of eighty have one thing more that may be wrong; those of seven parameters are wrong already.
		switch i % 80 {
		case 9:
			p.Group = bad[i]
		case 18:
			p.Name = bad[i]
		case 27:
			p.Params[0].Name = bad[i]
		case 36:
			p.Params[3].Value = bad[i]
		case 45:
			p.Value += bad[i]
		case 54:
			p.Agent = anAgent()
		case 0:
			p.Value = strings.Repeat(p.Value, 400)
		}
		l[i] = p
	}
	return l
}

// 8.1 and 8.4: many properties.
func TestCheckMany(t *testing.T) {
	count := map[api.Errno]int{}
	for _, p := range mixedProps(20000) {
		checked(t, p)
		count[checkWords(p)]++
	}
	for _, e := range []api.Errno{api.ErrName, api.ErrFull, api.ErrField, api.ErrKind, api.ErrLong} {
		if count[e] < 30 {
			t.Errorf("%d properties with %v", count[e], e)
		}
	}
	if count[api.OK] < 10000 {
		t.Errorf("%d properties are right", count[api.OK])
	}
}

// 8.2: lines that are right.
func TestParse(t *testing.T) {
	home := api.Prop{Group: "HOME", Name: "TEL", Params: params("TYPE", "work", "", "VOICE"), Value: "12"}
	for line, want := range map[string]api.Prop{
		"home.tel;type=work;voice:12": home, "HOME.TEL;TYPE=work;VOICE:12": home, "Home.Tel;tYPe=work;vOIce:12": home,
		"a:": {Name: "A"}, "A:": {Name: "A"}, "z:z": {Name: "Z", Value: "z"}, "a:A": {Name: "A", Value: "A"}, "fn:Ann Ex": {Name: "FN", Value: "Ann Ex"},
		// small letters: in the group, the name, names of parameters, values without a name; nowhere else
		"az.AZ;az;AZ;Az=aZ;aZ=Az:aZ": {Group: "AZ", Name: "AZ", Params: params("", "AZ", "", "AZ", "AZ", "aZ", "AZ", "Az"), Value: "aZ"},
		"x-a0.y-b1;z-c2=x-a0;x-a0:x": {Group: "X-A0", Name: "Y-B1", Params: params("Z-C2", "x-a0", "", "X-A0"), Value: "x"},
		// the first : ends what stands ahead; others are the value's, as are ; = and dots
		"a::": {Name: "A", Value: ":"}, "a:b:c": {Name: "A", Value: "b:c"}, "a::;=.:": {Name: "A", Value: ":;=.:"}, "a;b:c;d:e": {Name: "A", Params: params("", "B"), Value: "c;d:e"},
		"a:=": {Name: "A", Value: "="}, "a:b=c": {Name: "A", Value: "b=c"}, "a;b=c:d=e": {Name: "A", Params: params("B", "c"), Value: "d=e"}, "a;b:c=d": {Name: "A", Params: params("", "B"), Value: "c=d"},
		"a:;": {Name: "A", Value: ";"}, "a:;;b=": {Name: "A", Value: ";;b="},
		// dots: of a group, of parameters, of the value
		"a.b:": {Group: "A", Name: "B"}, "a.b:c": {Group: "A", Name: "B", Value: "c"}, "a.b:c.d": {Group: "A", Name: "B", Value: "c.d"}, "a:.": {Name: "A", Value: "."}, "a:b.c": {Name: "A", Value: "b.c"},
		"a;b.c:d": {Name: "A", Params: params("", "B.C"), Value: "d"}, "a;.b:": {Name: "A", Params: params("", ".B")}, "a;b.:": {Name: "A", Params: params("", "B.")}, "a;.:": {Name: "A", Params: params("", ".")},
		"a;b=c.d:": {Name: "A", Params: params("B", "c.d")}, "a;b=.:": {Name: "A", Params: params("B", ".")}, "a.b;c.d:e": {Group: "A", Name: "B", Params: params("", "C.D"), Value: "e"},
		"a.b;c=.d:.": {Group: "A", Name: "B", Params: params("C", ".d"), Value: "."}, "a;b;c..d:": {Name: "A", Params: params("", "B", "", "C..D")},
		// values of parameters
		"a;!;~:": {Name: "A", Params: params("", "!", "", "~")}, "a;b=!~:": {Name: "A", Params: params("B", "!~")}, "a;0;-;9-a:": {Name: "A", Params: params("", "0", "", "-", "", "9-A")}, "a;b;b;b=b;b=b:": {Name: "A", Params: params("", "B", "", "B", "B", "b", "B", "b")},
		"a;`@[{az,/:": {Name: "A", Params: params("", "`@[{AZ,/")},
		// values
		"a: ": {Name: "A", Value: " "}, "a:\t": {Name: "A", Value: "\t"}, "a:\x01\x1f\x7f\x80\xff\xc3(": {Name: "A", Value: "\x01\x1f\x7f\x80\xff\xc3("}, "a:é\u2028": {Name: "A", Value: "é\u2028"}, "a:\x0b\x0c\x09\x0e": {Name: "A", Value: "\x0b\x0c\x09\x0e"},
	} {
		read(t, line, want)
	}
}

// 8.2: no : , and a : first.
func TestParseNoColon(t *testing.T) {
	for _, s := range []string{"", "a", "A", "home.tel", "home.tel;type=work", ";", "=", ".", " ", "\x00", "\r\n", "a;;", "1", "a;b=c;d=e=", "\xff\xfe", "\uff1a", strings.Repeat("a", 33), strings.Repeat("a;", 9)} {
		refused(t, s, len(s), api.ErrShort)
	}
	for _, s := range []string{":", "::", ":a", ":a:b", ":\x00", ":" + strings.Repeat("a", 3000)} {
		refused(t, s, 0, api.ErrName)
	}
}

// 8.2: groups and names that are none.
func TestParseNames(t *testing.T) {
	for _, s := range odd {
		// These have other ends: they are told apart below.
		if strings.ContainsAny(s, ":;=") {
			continue
		}
		for _, behind := range []string{":", ":v", ";b:", ";b=c:\x00", ";:", ";b.c:"} {
			refused(t, s+behind, 0, api.ErrName)
			refused(t, s+"."+behind, 0, api.ErrName)
			refused(t, s+".a"+behind, 0, api.ErrName)
			refused(t, s+".a.b"+behind, 0, api.ErrName)
			refused(t, "a."+s+behind, 2, api.ErrName)
			refused(t, "abc."+s+".d"+behind, 4, api.ErrName)
		}
	}
	for s, at := range map[string]int{
		"1:": 0, "-:": 0, "1a:": 0, "-a:": 0, "a b:": 0, "a_b:": 0, "a=b:": 0, "=:": 0, "a=:": 0, "=b;c:": 0,
		// dots: first, last, two of them
		".:": 0, ".a:": 0, "a.:": 2, "..:": 0, "a..:": 2, "a..b:": 2, "a.b.:": 2, "a.b.c:": 2, ".a.b:": 0, "ab.:": 3, "a.;b:": 2, ".;b:": 0, ".a;b.c:": 0, "a.b.c;d:": 2, ".:.": 0, "a.:.b": 2,
		"1.a:": 0, "a.1:": 2, "a.-b;c:": 2, "1.1:": 0, "a=b.c:": 0, "a.b=c:": 2,
		// a ; first, and a name that is none ahead of it
		";:": 0, ";a:": 0, ";a.b:": 0, ";;:": 0, ";a=b:c": 0, "1;.a:": 0, " ;a.b:": 0,
	} {
		refused(t, s, at, api.ErrName)
	}
	for size := range 70 {
		name, want := strings.Repeat("a", size), strings.Repeat("A", size)
		if size >= 1 && size <= 32 {
			read(t, name+":", api.Prop{Name: want})
			read(t, name+"."+name+";b:", api.Prop{Group: want, Name: want, Params: params("", "B")})
		} else {
			refused(t, name+":", 0, api.ErrName)
			refused(t, name+".a:", 0, api.ErrName)
			refused(t, "a."+name+";b:", 2, api.ErrName)
		}
	}
}

// 8.2: parameters that are not as they must be, and the seventh.
func TestParseParams(t *testing.T) {
	for s, at := range map[string]int{
		"a;:x": 2, "a;:": 2, "a;;:": 2, "a;;b:": 2, "a;b;:": 4, "a;b;;c:": 4, "a;b=c;:": 6, "a;;;;;;;;;:": 2, "home.tel;:": 9, "home.tel;type=work;:": 19,
		// an = first, last, two of them
		"a;=:": 2, "a;=b:": 2, "a;b=:": 2, "a;b==:": 2, "a;==:": 2, "a;=b=:": 2, "a;b=c=:": 2, "a;b=c=d:": 2, "a;b==c:": 2, "a;==c:": 2, "a;b;=c:": 4, "a;b;c=:d": 4,
		// names that are none
		"a;1=b:": 2, "a;-=b:": 2, "a;b.c=d:": 2, "a; =b:": 2, "a;b =c:": 2, "a;b_=c:": 2, "a;\x00=b:": 2, "a;\xff=b:": 2, "a;é=b:": 2, "a;ſ=b:": 2, "a;ı=b:": 2, "a;b;1=c;=:": 4,
		// values that may not be
		"a; :": 2, "a;b :": 2, "a; b:": 2, "a;b= :": 2, "a;b=c d:": 2, "a;\x00:": 2, "a;b=\x00:": 2, "a;\t:": 2, "a;b\r\n:": 2, "a;\x7f:": 2, "a;\x80:": 2, "a;\xff:": 2, "a;b=\xff:": 2, "a;é:": 2, "a;ſ:": 2, "a;b=ı:": 2, "a;\u212a:": 2,
	} {
		refused(t, s, at, api.ErrField)
	}
	for size := range 70 {
		name, value, capital := strings.Repeat("n", size), strings.Repeat("v", size), strings.Repeat("V", size)
		if size >= 1 && size <= 32 {
			read(t, "a;"+value+";b="+value+":", api.Prop{Name: "A", Params: params("", capital, "B", value)})
			read(t, "a;"+name+"=b:", api.Prop{Name: "A", Params: params(strings.Repeat("N", size), "b")})
		} else {
			refused(t, "a;"+value+":", 2, api.ErrField)
			refused(t, "a;b=c;d="+value+":", 6, api.ErrField)
			refused(t, "a;b;"+name+"=c:", 4, api.ErrField)
		}
	}
	for count := range mostParams {
		refused(t, "a"+strings.Repeat(";b", count)+";:", 2+2*count, api.ErrField)
	}
	refused(t, "a"+strings.Repeat(";b", mostParams)+";:", 14, api.ErrFull)
	for count := range 20 {
		if count <= mostParams {
			read(t, "a"+strings.Repeat(";b", count)+":c", api.Prop{Name: "A", Params: times(count, "", "B"), Value: "c"})
			read(t, "a.b"+strings.Repeat(";cd=e", count)+":", api.Prop{Group: "A", Name: "B", Params: times(count, "CD", "e")})
		} else {
			refused(t, "a"+strings.Repeat(";b", count)+":c", 14, api.ErrFull)
			refused(t, "a.b"+strings.Repeat(";cd=e", count)+":", 34, api.ErrFull)
		}
	}
}

// 8.2: values of properties that may not be.
func TestParseValues(t *testing.T) {
	for _, head := range []string{"a:", "a.b:", "a;b:", "home.tel;type=work;voice:"} {
		p, _, _ := prop.Parse(head)
		for _, size := range []int{0, 1, 600, 601, mostValue - 1, mostValue, mostValue + 1, mostValue + 2, 2 * mostValue, 1 << 20} {
			p.Value = strings.Repeat(":", size)
			if size <= mostValue {
				read(t, head+p.Value, p)
			} else {
				refused(t, head+p.Value, len(head), api.ErrLong)
				refused(t, head+p.Value[1:]+"\x00", len(head), api.ErrLong)
				refused(t, head+"\n"+p.Value[1:], len(head), api.ErrLong)
			}
		}
		most := strings.Repeat("v", mostValue-1)
		for _, b := range sample.Bytes() {
			for _, ahead := range []int{0, 1, 2, 9, 1000, mostValue - 1} {
				for _, value := range []string{most[:ahead] + b, most[:ahead] + b + most[ahead:], (most[:ahead] + b + "\x00\n\r")[:min(ahead+3, mostValue)]} {
					p.Value = value
					switch at := strings.IndexAny(value, "\x00\n\r"); {
					case at >= 0:
						refused(t, head+value, len(head)+at, api.ErrField)
					default:
						read(t, head+value, p)
					}
				}
			}
		}
	}
}

// 8.2: of several errors the one that comes first, from the front on.
func TestParseFirst(t *testing.T) {
	long := strings.Repeat("\n", mostValue+1)
	for _, one := range []struct {
		line string
		at   int
		e    api.Errno
	}{
		{"1.2;;=;3=4;;;;;;", 16, api.ErrShort}, {"\x00\n", 2, api.ErrShort}, {"a;b;c;d;e;f;g;h", 15, api.ErrShort},
		{"1.2;;;;;;;;:" + long, 0, api.ErrName}, {"a.2;;;;;;;;:" + long, 2, api.ErrName}, {"2;;;;;;;;:" + long, 0, api.ErrName}, {"1.a:", 0, api.ErrName},
		{"a;;b;c;d;e;f;g:" + long, 2, api.ErrField}, {"a;b;c;d;e;f;;g:" + long, 12, api.ErrField}, {"a;b;c;d;e;f;;:" + long, 12, api.ErrField}, {"a;;;:" + long, 2, api.ErrField}, {"a;b;c=;=d:", 4, api.ErrField},
		{"a;b;c;d;e;f;g;:" + long, 14, api.ErrFull}, {"a;b;c;d;e;f;g;h=:" + long, 14, api.ErrFull}, {"a;b;c;d;e;f;g;h;i:", 14, api.ErrFull},
		{"a;b;c;d;e;f;g:" + long, 14, api.ErrLong}, {"a:" + long, 2, api.ErrLong},
		{"a:\x00\n\r", 2, api.ErrField}, {"a:v\r\n\x00", 3, api.ErrField}, {"a;b;c;d;e;f;g:vw\n\r\x00", 16, api.ErrField},
	} {
		refused(t, one.line, one.at, one.e)
	}
}

// parsedWords holds Parse against 8.2's words, and what is read against 8.4's, and answers the error.
func parsedWords(t *testing.T, s string) api.Errno {
	t.Helper()
	want, at, e := parseWords(s)
	parsed(t, s, want, at, e)
	if e == api.OK {
		line, bad := prop.Print(want)
		if bad != api.OK || !sameButSmall(line, s) {
			t.Errorf("Print of what Parse(%q) tells: %q and %v", s, line, bad)
		}
		read(t, line, want)
	}
	return e
}

// sameButSmall tells whether a line is another one, but that some small letters ahead of the value are capitals.
func sameButSmall(line, other string) bool {
	at := strings.Index(other, ":")
	return len(line) == len(other) && upper(line[:at]) == upper(other[:at]) && line[at:] == other[at:]
}

// 8.2 and 8.4: each byte put into a line that is right, and put for each of its bytes; and the line cut off anywhere.
func TestParseEachByte(t *testing.T) {
	for _, line := range []string{"A:", "ab.cd;ef=gh;ij:kl", "x-1;y=z:", "n;1;2;3;4;5;6:a:b", strings.Repeat("G", 32) + "." + strings.Repeat("n", 32) + ";" + strings.Repeat("p", 32) + "=" + strings.Repeat("v", 32) + ":v"} {
		for i := range len(line) + 1 {
			parsedWords(t, line[:i])
			parsedWords(t, line[i:])
			for _, b := range sample.Bytes() {
				parsedWords(t, line[:i]+b+line[i:])
				parsedWords(t, line[:i]+b+line[min(i+1, len(line)):])
			}
		}
	}
}

// 8.2 and 8.4: many lines.
func TestParseMany(t *testing.T) {
	l := append(sample.Texts("a;:=.", 8), sample.Texts("aZ;:=.1-\x00", 5)...)
	l = append(l, sample.Texts(strings.Join(sample.Bytes(), ""), 2)...)
	l = append(l, sample.Mixed(30000, 24, []string{";", "=", ":", ".", "a", "B", "-", "0", "tel", "TYPE=", ";type=work", ";VOICE", "home.", "n:"})...)
	l = append(l, sample.Mixed(3000, 60, sample.Bytes())...)
	for _, p := range mixedProps(20000) {
		l = append(l, printWords(p))
	}
	for _, s := range sample.Mixed(10000, 9, []string{";", ";a", ";B=c", ";d=E", ";=", ";f=g=h", ";\xff", ";i.j", ";K", ";l"}) {
		l = append(l, "n"+s+":v", "g.N"+s+":v\n", "n"+s)
	}
	count := map[api.Errno]int{}
	for _, s := range l {
		count[parsedWords(t, s)]++
	}
	for _, e := range []api.Errno{api.OK, api.ErrShort, api.ErrName, api.ErrField, api.ErrFull, api.ErrLong} {
		if count[e] < 30 {
			t.Errorf("%d lines with %v", count[e], e)
		}
	}
	if count[api.OK] < 20000 {
		t.Errorf("%d lines are right", count[api.OK])
	}
}

// asked holds Param against what it must answer.
func asked(t *testing.T, p api.Prop, name, want string, wantOk bool) {
	t.Helper()
	if got, ok := prop.Param(p, name); got != want || ok != wantOk {
		t.Errorf("Param(%.300q, %q): %q and %v, not %q and %v", p, name, got, ok, want, wantOk)
	}
}

// 8.3: Param.
func TestParam(t *testing.T) {
	several := api.Prop{Name: "TEL", Params: params("TYPE", "work", "", "VOICE", "TYPE", "home", "", "FAX", "X", "")}
	asked(t, several, "TYPE", "work", true)
	asked(t, several, "", "VOICE", true)
	asked(t, several, "X", "", true)
	for _, name := range []string{"type", "Type", "TYP", "TYPES", "VOICE", "work", "x", " ", "TEL", "\x00", "TYPE=", "TYPE\x00", strings.Repeat("TYPE", 1000)} {
		asked(t, several, name, "", false)
	}
	for _, name := range []string{"", "A", "a"} {
		asked(t, api.Prop{}, name, "", false)
		asked(t, api.Prop{Name: "A", Params: []api.Param{}}, name, "", false)
		asked(t, api.Prop{Group: name, Name: name, Value: name, Agent: anAgent()}, name, "", false)
	}
	asked(t, api.Prop{Params: params("A", "b")}, "", "", false)
	asked(t, api.Prop{Params: params("", "b")}, "A", "", false)
	// of properties that are not right, too
	broken := api.Prop{Group: "g", Name: "", Params: params("a", "\x00", "A", ";", "\xff", "=", "", "", "", "z", "a b", "c d"), Value: "\n", Agent: anAgent()}
	for name, want := range map[string]string{"a": "\x00", "A": ";", "\xff": "=", "": "", "a b": "c d"} {
		asked(t, broken, name, want, true)
	}
	asked(t, broken, "b", "", false)
	asked(t, api.Prop{Params: append(times(1<<16, "A", "b"), params("B", "c")...)}, "B", "c", true)
}

// without holds Without against what it must answer.
func without(t *testing.T, p api.Prop, name string, want []api.Param) {
	t.Helper()
	wanted := copyOf(p)
	wanted.Params = want
	if got := prop.Without(p, name); !sameProps(got, wanted) {
		t.Errorf("Without(%.300q, %q): %.300q, not %.300q", p, name, got, wanted)
	}
}

// 8.3: Without.
func TestWithout(t *testing.T) {
	list := params("TYPE", "work", "", "VOICE", "TYPE", "home", "", "FAX", "X", "")
	for _, p := range []api.Prop{{Name: "TEL", Value: "1"}, {Group: "G", Name: "AGENT", Agent: anAgent()}, {Group: "g", Name: "\x00", Value: "\n", Agent: []api.Card{{}, {Props: []api.Prop{{Name: "A", Params: params("TYPE", "a", "X", "b", "", "c"), Agent: anAgent()}}}}}} {
		without(t, p, "TYPE", nil)
		without(t, p, "", nil)
		p.Params = list
		without(t, p, "TYPE", params("", "VOICE", "", "FAX", "X", ""))
		without(t, p, "", params("TYPE", "work", "TYPE", "home", "X", ""))
		without(t, p, "X", list[:4])
		for _, name := range []string{"type", "Type", "x", "VOICE", "work", "TEL", " ", "TYPE\x00", "\xff"} {
			without(t, p, name, list)
		}
		p.Params = times(9, "A", "b")
		without(t, p, "A", nil)
		without(t, p, "a", p.Params)
		p.Params = params("a", "\x00", "A", ";", "\xff", "=", "a", "")
		without(t, p, "a", params("A", ";", "\xff", "="))
		without(t, p, "\xff", params("a", "\x00", "A", ";", "a", ""))
	}
	many := append(append(times(1<<16, "A", "b"), params("B", "c")...), times(1<<16, "A", "d")...)
	without(t, api.Prop{Params: many}, "A", params("B", "c"))
	without(t, api.Prop{Params: many}, "B", append(times(1<<16, "A", "b"), times(1<<16, "A", "d")...))
}

// 8.3: Param and Without of many properties; what is without a name has none of it, and all others.
func TestWithoutMany(t *testing.T) {
	for _, p := range mixedProps(3000) {
		for _, q := range append(params("", "", "A", ""), p.Params...) {
			var left []api.Param
			found := -1
			for i, other := range p.Params {
				if other.Name != q.Name {
					left = append(left, other)
				} else if found < 0 {
					found = i
				}
			}
			without(t, p, q.Name, left)
			if found < 0 {
				asked(t, p, q.Name, "", false)
			} else {
				asked(t, p, q.Name, p.Params[found].Value, true)
			}
			asked(t, prop.Without(p, q.Name), q.Name, "", false)
		}
	}
}

// deep is a property whose lists have room behind them, with cards within cards.
func deep(levels int) api.Prop {
	room := append(make([]api.Param, 0, 8), params("A", "b", "", "C", "A", "d")...)
	p := api.Prop{Group: "G", Name: "N", Params: room, Value: "v"}
	for range levels {
		p = api.Prop{Name: "AGENT", Params: append(make([]api.Param, 0, 8), room...), Agent: append(make([]api.Card, 0, 4), api.Card{Props: append(make([]api.Prop, 0, 4), api.Prop{Name: "FN", Params: params("A", "b")}, p)})}
	}
	return p
}

// spoil sets something else into all that a property's lists have, and behind it.
func spoil(p api.Prop) {
	for i := range p.Params {
		p.Params[i] = api.Param{Name: "SPOILT", Value: "spoilt"}
	}
	_ = append(p.Params, api.Param{Name: "BEHIND", Value: "spoilt"})
	for i, c := range p.Agent {
		for j, within := range c.Props {
			spoil(within)
			c.Props[j] = api.Prop{Name: "SPOILT"}
		}
		_ = append(c.Props, api.Prop{Name: "BEHIND"})
		p.Agent[i] = api.Card{}
	}
	_ = append(p.Agent, api.Card{Props: []api.Prop{{Name: "BEHIND"}}})
}

// What is handed in stays as it is, behind the lists' ends, too; what is handed out is nobody else's.
func TestListsOfTheirOwn(t *testing.T) {
	for levels := range 4 {
		p, wanted := deep(levels), deep(levels)
		if e := prop.Check(p); (e == api.OK) != (levels == 0) {
			t.Errorf("Check(%q): %v", p, e)
		}
		prop.Print(p)
		for _, name := range []string{"", "A", "B", "a"} {
			prop.Param(p, name)
			got := prop.Without(p, name)
			again := copyOf(got)
			spoil(got)
			if !sameProps(p, wanted) || slices.ContainsFunc(p.Params[:cap(p.Params)], isSpoilt) {
				t.Fatalf("Without(%q, %q): %q is spoilt", wanted, name, p)
			}
			other := deep(levels)
			got = prop.Without(other, name)
			spoil(other)
			if !sameProps(got, again) {
				t.Errorf("Without(%q, %q), when that is spoilt: %q, not %q", wanted, name, got, again)
			}
		}
	}
	for _, line := range []string{"a;b;c=d:e", "g.n;a;b;c;d;e;f:"} {
		p, _, _ := prop.Parse(line)
		wanted := copyOf(p)
		spoil(p)
		read(t, line, wanted)
	}
}

// isSpoilt tells whether a parameter is one that spoil sets.
func isSpoilt(q api.Param) bool { return q.Value == "spoilt" }

// No two lists of what Without answers are one, even if those that were handed in are.
func TestListsApart(t *testing.T) {
	list := params("A", "b", "C", "d")
	card := api.Card{Props: []api.Prop{{Name: "X", Params: list}, {Name: "Y", Params: list}}}
	p := api.Prop{Params: list, Agent: []api.Card{card, card}}
	for _, name := range []string{"A", "B"} {
		got, wanted := prop.Without(p, name), prop.Without(p, name)
		got.Agent[0].Props[0].Params[0].Value = "other"
		got.Agent[0].Props[0].Name = "OTHER"
		got.Agent[0].Props[1].Params[1].Value = "another"
		got.Params[0].Value = "a third"
		if got.Agent[0].Props[1].Params[0].Value != "b" || got.Agent[0].Props[0].Params[1].Value != "d" || !sameCards(got.Agent[1], wanted.Agent[1]) || !slices.Equal(list, params("A", "b", "C", "d")) {
			t.Errorf("Without(%q): lists are shared: %q", name, got)
		}
	}
}

// P1: calls end, and none panics, at lists and texts that are far too long, and at cards that lie deep within one another.
func TestCallsEnd(t *testing.T) {
	const many = 1 << 16
	for _, b := range strings.Split("\x00\n\r -.09:;=AZaz~\x7f\x80\xc3\xff", "") {
		s := strings.Repeat(b, many)
		named(t, s, false)
		for range 2 {
			for _, line := range []string{s, s + ":", "a" + s + ":", "a." + s + ":", "a;" + s + ":", "a;b=" + s + ":", "a:" + s, s + ":" + s} {
				want, at, e := parseWords(line)
				parsed(t, line, want, at, e)
			}
		}
		wrong(t, api.Prop{Group: s, Name: "A"}, api.ErrName)
		wrong(t, api.Prop{Name: s}, api.ErrName)
		wrong(t, api.Prop{Name: "A", Params: params(s, "a")}, api.ErrField)
		wrong(t, api.Prop{Name: "A", Params: params("", s)}, api.ErrField)
		wrong(t, api.Prop{Name: "A", Value: s}, api.ErrLong)
	}
	for _, piece := range []string{";a", ";a=b", ";=", ".a", "a=", ":a"} {
		line := "n" + strings.Repeat(piece, many) + ":"
		want, at, e := parseWords(line)
		parsed(t, line, want, at, e)
	}
	wrong(t, api.Prop{Name: "A", Params: times(many, "x", "")}, api.ErrFull)
	wrong(t, api.Prop{Name: "A", Agent: make([]api.Card, many)}, api.ErrKind)
	p := deep(many - 2)
	wrong(t, p, api.ErrKind)
	without(t, p, "A", params("", "C"))
	if line, e := prop.Print(api.Prop{}); line != "" || e != api.ErrName {
		t.Errorf("Print of nothing: %q and %v", line, e)
	}
}
