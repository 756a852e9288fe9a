package vocab_test

import (
	"iter"
	"math"
	"slices"
	"strings"
	"testing"

	"cardcase/sample"
	"cardcase/vocab"
)

// A pair is a token and its name.
type pair struct {
	token byte
	name  string
}

// pages are the pairs of each page, rising, as the chapter's lists have them.
var pages = [][]pair{
	{ // SyncML
		{0x05, "Add"}, {0x06, "Alert"}, {0x07, "Archive"}, {0x08, "Atomic"}, {0x09, "Chal"}, {0x0a, "Cmd"},
		{0x0b, "CmdID"}, {0x0c, "CmdRef"}, {0x0d, "Copy"}, {0x0e, "Cred"}, {0x0f, "Data"}, {0x10, "Delete"},
		{0x11, "Exec"}, {0x12, "Final"}, {0x13, "Get"}, {0x14, "Item"}, {0x15, "Lang"}, {0x16, "LocName"},
		{0x17, "LocURI"}, {0x18, "Map"}, {0x19, "MapItem"}, {0x1a, "Meta"}, {0x1b, "MsgID"}, {0x1c, "MsgRef"},
		{0x1d, "NoResp"}, {0x1e, "NoResults"}, {0x1f, "Put"}, {0x20, "Replace"}, {0x21, "RespURI"}, {0x22, "Results"},
		{0x23, "Search"}, {0x24, "Sequence"}, {0x25, "SessionID"}, {0x26, "SftDel"}, {0x27, "Source"}, {0x28, "SourceRef"},
		{0x29, "Status"}, {0x2a, "Sync"}, {0x2b, "SyncBody"}, {0x2c, "SyncHdr"}, {0x2d, "SyncML"}, {0x2e, "Target"},
		{0x2f, "TargetRef"}, {0x31, "VerDTD"}, {0x32, "VerProto"}, {0x33, "NumberOfChanges"}, {0x34, "MoreData"},
	},
	{ // MetInf
		{0x05, "Anchor"}, {0x06, "EMI"}, {0x07, "Format"}, {0x08, "FreeID"}, {0x09, "FreeMem"}, {0x0a, "Last"},
		{0x0b, "Mark"}, {0x0c, "MaxMsgSize"}, {0x0d, "Mem"}, {0x0e, "MetInf"}, {0x0f, "Next"}, {0x10, "NextNonce"},
		{0x11, "SharedMem"}, {0x12, "Size"}, {0x13, "Type"}, {0x14, "Version"}, {0x15, "MaxObjSize"},
	},
	{ // DevInf
		{0x05, "CTCap"}, {0x06, "CTType"}, {0x07, "DataStore"}, {0x08, "DataType"}, {0x09, "DevID"}, {0x0a, "DevInf"},
		{0x0b, "DevTyp"}, {0x0c, "DisplayName"}, {0x0d, "DSMem"}, {0x0e, "Ext"}, {0x0f, "FwV"}, {0x10, "HwV"},
		{0x11, "Man"}, {0x12, "MaxGUIDSize"}, {0x13, "MaxID"}, {0x14, "MaxMem"}, {0x15, "Mod"}, {0x16, "OEM"},
		{0x17, "ParamName"}, {0x18, "PropName"}, {0x19, "Rx"}, {0x1a, "RxPref"}, {0x1b, "SharedMem"}, {0x1c, "Size"},
		{0x1d, "SourceRef"}, {0x1e, "SwV"}, {0x1f, "SyncCap"}, {0x20, "SyncType"}, {0x21, "Tx"}, {0x22, "TxPref"},
		{0x23, "ValEnum"}, {0x24, "VerCT"}, {0x25, "VerDTD"}, {0x26, "XNam"}, {0x27, "XVal"}, {0x28, "UTC"},
		{0x29, "SupportNumberOfChanges"}, {0x2a, "SupportLargeObjs"},
	},
}

// spaces are the pages' namespaces.
var spaces = []string{"SYNCML:SYNCML1.2", "syncml:metinf", "syncml:devinf"}

// none are numbers of which there is no page.
var none = []int{
	-1, 3, -2, -3, 4, 5, 42, 48, 255, 256, 257, 258, -255, -254, -256, 1 << 16, 1<<16 + 1, 1 << 32, 1<<32 + 1, 1<<32 + 2, -1 << 32, 1 - 1<<32, 2 - 1<<32,
	math.MaxInt32, math.MinInt32, math.MaxInt, math.MaxInt - 1, math.MinInt, math.MinInt + 1, math.MinInt + 2,
}

// tokenOf is the token that a page's list has for a name; 0, if it has none.
func tokenOf(page int, name string) byte {
	for _, p := range pages[page] {
		if p.name == name {
			return p.token
		}
	}
	return 0
}

// nameOf is the name that a page's list has for a token; none, if it has none.
func nameOf(page int, token byte) string {
	for _, p := range pages[page] {
		if p.token == token {
			return p.name
		}
	}
	return ""
}

// tokens holds Token of a name against the lists, on each page; where there is no page, the name has no token.
func tokens(t *testing.T, name string) {
	t.Helper()
	for page := range pages {
		if got, want := vocab.Token(page, name), tokenOf(page, name); got != want {
			t.Errorf("Token(%d, %.60q): %#x, not %#x", page, name, got, want)
		}
	}
	for _, page := range none {
		if got := vocab.Token(page, name); got != 0 {
			t.Errorf("Token(%d, %.60q): %#x, where there is no page", page, name, got)
		}
	}
}

// The lists of these tests have as many names as the chapter's, and the pages have their numbers.
func TestPages(t *testing.T) {
	for page, count := range []int{47, 17, 38} {
		if len(pages[page]) != count {
			t.Errorf("page %d: %d names", page, len(pages[page]))
		}
	}
	if vocab.SyncML != 0 || vocab.MetInf != 1 || vocab.DevInf != 2 {
		t.Errorf("pages %d, %d, %d", vocab.SyncML, vocab.MetInf, vocab.DevInf)
	}
}

// 14.1: the chapter's examples.
func TestExamples(t *testing.T) {
	if got := vocab.Token(0, "Sync"); got != 0x2a {
		t.Errorf("Sync of page 0: %#x", got)
	}
	if got := vocab.Name(1, 5); got != "Anchor" {
		t.Errorf("5 of page 1: %q", got)
	}
	if got := vocab.Token(0, "Anchor"); got != 0 {
		t.Errorf("Anchor of page 0: %#x", got)
	}
}

// 14.1: each name of each page by its own token; on the other pages, and where there is no page, it has none, but for those that two pages have.
func TestToken(t *testing.T) {
	for page, l := range pages {
		for _, p := range l {
			if got := vocab.Token(page, p.name); got != p.token {
				t.Errorf("Token(%d, %q): %#x, not %#x", page, p.name, got, p.token)
			}
			if got := vocab.Token(page, strings.Clone(p.name)); got != p.token {
				t.Errorf("Token(%d, %q), elsewhere in memory: %#x, not %#x", page, p.name, got, p.token)
			}
			tokens(t, p.name)
		}
	}
	for _, p := range []struct {
		page  int
		name  string
		token byte
	}{
		{0, "SourceRef", 0x28}, {1, "SourceRef", 0}, {2, "SourceRef", 0x1d},
		{0, "VerDTD", 0x31}, {1, "VerDTD", 0}, {2, "VerDTD", 0x25},
		{0, "SharedMem", 0}, {1, "SharedMem", 0x11}, {2, "SharedMem", 0x1b},
		{0, "Size", 0}, {1, "Size", 0x12}, {2, "Size", 0x1c},
		{1, "Add", 0}, {2, "Add", 0}, {0, "MetInf", 0}, {2, "MetInf", 0}, {0, "DevInf", 0}, {1, "DevInf", 0}, {1, "SyncML", 0}, {2, "SyncML", 0},
		{0, "SupportLargeObjs", 0}, {1, "SupportLargeObjs", 0}, {0, "MaxObjSize", 0}, {2, "MaxObjSize", 0}, {1, "MoreData", 0}, {2, "MoreData", 0},
	} {
		if got := vocab.Token(p.page, p.name); got != p.token {
			t.Errorf("Token(%d, %q): %#x, not %#x", p.page, p.name, got, p.token)
		}
	}
}

// swapped is a text with the letter at a place small for great, or great for small.
func swapped(s string, at int) string { return s[:at] + string([]byte{s[at] ^ 0x20}) + s[at+1:] }

// 14.1: what is nearly a name has no token, but where it is another name.
func TestTokenNearly(t *testing.T) {
	for _, l := range pages {
		for i, p := range l {
			name := p.name
			for at := range len(name) {
				tokens(t, swapped(name, at))
				tokens(t, name[:at]+name[at+1:])
				tokens(t, name[:at])
				tokens(t, name[at+1:])
				tokens(t, name[:at]+name[at:at+1]+name[at:])
				tokens(t, name[:at]+" "+name[at:])
				tokens(t, name[:at]+"\xff"+name[at+1:])
			}
			tokens(t, strings.ToLower(name))
			tokens(t, strings.ToUpper(name))
			for _, b := range sample.Bytes() {
				tokens(t, name+b)
				tokens(t, b+name)
				tokens(t, b+name+b)
			}
			tokens(t, name+name)
			tokens(t, name+" "+name)
			tokens(t, name+" -")
			tokens(t, "- "+name)
			if i > 0 {
				tokens(t, l[i-1].name+" "+name)
				tokens(t, l[i-1].name+name)
			}
		}
	}
	// Names that lack a letter of others, or have one more: each its own token
	for name, token := range map[string]byte{"Map": 0x18, "MapItem": 0x19, "Cmd": 0x0a, "CmdID": 0x0b, "Source": 0x27, "SourceRef": 0x28, "Sync": 0x2a, "SyncML": 0x2d, "Target": 0x2e, "TargetRef": 0x2f} {
		if got := vocab.Token(0, name); got != token {
			t.Errorf("Token(0, %q): %#x, not %#x", name, got, token)
		}
	}
}

// 14.1: what is no name at all has no token.
func TestTokenNone(t *testing.T) {
	for _, name := range []string{
		"", "-", " ", "--", "- ", " -", "TargetRef - VerDTD", "TargetRef -", "- VerDTD", "TargetRef  VerDTD", "\x00", "\n", "5", "0x05", "\x05", "*", ".", "?",
		"0", "SYNCML:SYNCML1.2", "syncml:metinf", "Correlator", "Reserved", "Rx-Pref", "Tx-Pref", "NumberOfChanged", "Bcc", "é", "\xff", "Ａdd", "Αdd", "Add\u0301",
	} {
		tokens(t, name)
		for page := range pages {
			if got := vocab.Token(page, name); got != 0 {
				t.Errorf("Token(%d, %q): %#x", page, name, got)
			}
		}
	}
	for _, name := range sample.Texts("Ad- \x00\xff", 4) {
		tokens(t, name)
	}
}

// 14.1: each of the 256 tokens of each page; none where there is no page.
func TestName(t *testing.T) {
	for token := range 256 {
		for page := range pages {
			if got, want := vocab.Name(page, byte(token)), nameOf(page, byte(token)); got != want {
				t.Errorf("Name(%d, %#x): %q, not %q", page, token, got, want)
			}
		}
		for _, page := range none {
			if got := vocab.Name(page, byte(token)); got != "" {
				t.Errorf("Name(%d, %#x): %q, where there is no page", page, token, got)
			}
		}
	}
	for _, p := range []struct {
		page  int
		token byte
		name  string
	}{
		{0, 0, ""}, {0, 4, ""}, {0, 5, "Add"}, {0, 0x2f, "TargetRef"}, {0, 0x30, ""}, {0, 0x31, "VerDTD"}, {0, 0x34, "MoreData"}, {0, 0x35, ""}, {0, 0x40, ""}, {0, 0x45, ""}, {0, 0x85, ""}, {0, 255, ""},
		{1, 0, ""}, {1, 4, ""}, {1, 5, "Anchor"}, {1, 0x15, "MaxObjSize"}, {1, 0x16, ""}, {1, 0x30, ""}, {1, 0x45, ""}, {1, 255, ""},
		{2, 0, ""}, {2, 4, ""}, {2, 5, "CTCap"}, {2, 0x2a, "SupportLargeObjs"}, {2, 0x2b, ""}, {2, 0x30, ""}, {2, 0x45, ""}, {2, 255, ""},
	} {
		if got := vocab.Name(p.page, p.token); got != p.name {
			t.Errorf("Name(%d, %#x): %q, not %q", p.page, p.token, got, p.name)
		}
	}
}

// gathered are all pairs that a page tells.
func gathered(each func(yield func(byte, string) bool)) []pair {
	var l []pair
	for token, name := range each {
		l = append(l, pair{token, name})
	}
	return l
}

// 14.1: all pairs of each page in their order, as often as one likes; none, where there is no page.
func TestEach(t *testing.T) {
	for page, want := range pages {
		each := vocab.Each(page)
		for range 3 {
			if got := gathered(each); !slices.Equal(got, want) {
				t.Errorf("page %d: %v", page, got)
			}
		}
		if got := gathered(vocab.Each(page)); !slices.Equal(got, want) {
			t.Errorf("page %d, asked again: %v", page, got)
		}
		for token, name := range each {
			if name == "-" || name == "" || token == 0x30 && page == 0 {
				t.Errorf("page %d: %#x, %q", page, token, name)
			}
		}
	}
	for _, page := range none {
		if got := gathered(vocab.Each(page)); len(got) != 0 {
			t.Errorf("page %d, which there is not: %v", page, got)
		}
	}
}

// 14.1: stopped at each place, nothing is told any more; it may be gone through from its beginning again.
func TestEachStopped(t *testing.T) {
	for page, want := range pages {
		each := vocab.Each(page)
		for most := 1; most <= len(want)+1; most++ {
			var got []pair
			each(func(token byte, name string) bool {
				got = append(got, pair{token, name})
				return len(got) < most
			})
			if !slices.Equal(got, want[:min(most, len(want))]) {
				t.Errorf("page %d, %d of them: %v", page, most, got)
			}
		}
		for token, name := range each {
			if (pair{token, name}) != want[0] {
				t.Errorf("page %d, the first one alone: %#x, %q", page, token, name)
			}
			break
		}
		if got := gathered(each); !slices.Equal(got, want) {
			t.Errorf("page %d, behind those that were stopped: %v", page, got)
		}
	}
}

// 14.1: one page's pairs within its own and others', and two that are gone through side by side.
func TestEachBeside(t *testing.T) {
	for page, want := range pages {
		each := vocab.Each(page)
		count := 0
		for token, name := range each {
			if (pair{token, name}) != want[count] {
				t.Errorf("page %d, with others within: %#x, %q", page, token, name)
			}
			count++
			for other, l := range pages {
				if got := gathered(vocab.Each(other)); !slices.Equal(got, l) {
					t.Errorf("page %d within %d: %v", other, page, got)
				}
			}
			if got := gathered(each); !slices.Equal(got, want) {
				t.Errorf("page %d within itself: %v", page, got)
			}
		}
		if count != len(want) {
			t.Errorf("page %d, with others within: %d pairs", page, count)
		}
		for other, l := range pages {
			beside(t, each, want, vocab.Each(other), l)
		}
		beside(t, each, want, each, want)
	}
}

// beside goes through two iterators by turns, the second one a step ahead, and holds what they tell against two lists.
func beside(t *testing.T, one iter.Seq2[byte, string], wantOne []pair, other iter.Seq2[byte, string], wantOther []pair) {
	t.Helper()
	nextOne, stopOne := iter.Pull2(one)
	defer stopOne()
	nextOther, stopOther := iter.Pull2(other)
	defer stopOther()
	var gotOne, gotOther []pair
	take := func(l *[]pair, next func() (byte, string, bool)) bool {
		token, name, ok := next()
		if ok {
			*l = append(*l, pair{token, name})
		}
		return ok
	}
	take(&gotOther, nextOther)
	for more := true; more; {
		more = take(&gotOne, nextOne)
		more = take(&gotOther, nextOther) || more
	}
	if !slices.Equal(gotOne, wantOne) || !slices.Equal(gotOther, wantOther) {
		t.Errorf("side by side: %v and %v", gotOne, gotOther)
	}
}

// 14.1: the three pages' namespaces; none, where there is no page.
func TestSpace(t *testing.T) {
	for page, want := range spaces {
		if got := vocab.Space(page); got != want {
			t.Errorf("Space(%d): %q", page, got)
		}
	}
	for _, page := range none {
		if got := vocab.Space(page); got != "" {
			t.Errorf("Space(%d): %q", page, got)
		}
	}
	for page := -300; page <= 300; page++ {
		if got := vocab.Space(page); (got != "") != (page >= 0 && page <= 2) {
			t.Errorf("Space(%d): %q", page, got)
		}
	}
}

// 14.1: the three namespaces' pages; -1 of each other text.
func TestPage(t *testing.T) {
	for want, space := range spaces {
		if got := vocab.Page(space); got != want {
			t.Errorf("Page(%q): %d", space, got)
		}
		if got := vocab.Page(strings.Clone(space)); got != want {
			t.Errorf("Page(%q), elsewhere in memory: %d", space, got)
		}
	}
	other := func(space string) {
		t.Helper()
		if got := vocab.Page(space); got != -1 {
			t.Errorf("Page(%.60q): %d", space, got)
		}
	}
	for _, space := range spaces {
		for at := range len(space) {
			other(space[:at])
			other(space[at+1:])
			other(space[:at] + space[at+1:])
			other(space[:at] + space[at:at+1] + space[at:])
			other(space[:at] + "\xff" + space[at+1:])
			if space[at] >= 'A' {
				other(swapped(space, at))
			}
		}
		for _, b := range sample.Bytes() {
			other(space + b)
			other(b + space)
			other(b + space + b)
		}
		other(space + space)
		for _, further := range spaces {
			other(space + " " + further)
			other(space + further)
		}
	}
	for _, space := range []string{
		"", " ", "-", "0", "1", "2", "-1", "\x00", "\x01", "\x02", "SyncML", "MetInf", "DevInf", "syncml", "syncml:", ":", "syncml:syncml1.2", "SYNCML:METINF", "SYNCML:DEVINF", "Syncml:metinf", "syncml:MetInf", "syncml:DevInf", "SYNCML:SYNCML1.1", "SYNCML:SYNCML1.20", "SYNCML:SYNCML",
	} {
		other(space)
	}
	for _, l := range pages {
		for _, p := range l {
			other(p.name)
		}
	}
}

// 14.2: each name's token has that name, each token's name that token; no two names have one token, no two tokens one name.
func TestOneForOne(t *testing.T) {
	for page, l := range pages {
		byToken, byName := map[byte]string{}, map[string]byte{}
		for token, name := range vocab.Each(page) {
			if got := vocab.Name(page, vocab.Token(page, name)); got != name {
				t.Errorf("page %d: the token of %q has the name %q", page, name, got)
			}
			if got := vocab.Token(page, vocab.Name(page, token)); got != token {
				t.Errorf("page %d: the name of %#x has the token %#x", page, token, got)
			}
			if other, ok := byToken[token]; ok {
				t.Errorf("page %d: %q and %q have the token %#x", page, other, name, token)
			}
			if other, ok := byName[name]; ok {
				t.Errorf("page %d: %#x and %#x have the name %q", page, other, token, name)
			}
			byToken[token], byName[name] = name, token
		}
		if len(byToken) != len(l) || len(byName) != len(l) {
			t.Errorf("page %d: %d tokens, %d names", page, len(byToken), len(byName))
		}
		count := 0
		for token := range 256 {
			name := vocab.Name(page, byte(token))
			if name == "" {
				continue
			}
			count++
			if got := vocab.Token(page, name); got != byte(token) {
				t.Errorf("page %d: the name of %#x has the token %#x", page, token, got)
			}
		}
		if count != len(l) {
			t.Errorf("page %d: %d of the 256 tokens have a name", page, count)
		}
		if got := vocab.Page(vocab.Space(page)); got != page {
			t.Errorf("page %d: its namespace has the page %d", page, got)
		}
	}
	// Where there is no page there is no namespace, and no page has that.
	for _, page := range none {
		if got := vocab.Page(vocab.Space(page)); got != -1 {
			t.Errorf("page %d: its namespace has the page %d", page, got)
		}
	}
}

// P1: inputs that no writer makes: every call ends, and answers nothing.
func TestFar(t *testing.T) {
	far := []string{
		strings.Repeat("A", 1<<24), strings.Repeat("Add ", 1<<22), "Add" + strings.Repeat(" ", 1<<24), strings.Repeat("\x00", 1<<24), strings.Repeat("\xff", 1<<24), strings.Repeat("-", 1<<24), strings.Repeat("- ", 1<<20), "syncml:metinf" + strings.Repeat("\x00", 1<<24),
	}
	for _, name := range slices.Concat(far, sample.Mixed(2000, 12, []string{"Add", "Sync", "ML", "Ref", "Target", "-", " ", "\x00", "\xff", "é", "syncml:", "metinf"})) {
		tokens(t, name)
		want := -1
		for page, space := range spaces {
			if space == name {
				want = page
			}
		}
		if got := vocab.Page(name); got != want {
			t.Errorf("Page(%.60q): %d", name, got)
		}
	}
}
