package markup_test

import (
	"fmt"
	"slices"
	"strconv"
	"strings"
	"testing"

	"cardcase/api"
	"cardcase/markup"
	"cardcase/sample"
	"cardcase/vocab"
)

// reads holds a document's element against what it must be.
func reads(t *testing.T, what, s string, want api.Elem) {
	t.Helper()
	if got, at, wrong := markup.Read(s); !same(got, want) || at != 0 || wrong != api.OK {
		t.Errorf("Read, %s (%.200q): %.100v, %v at %d, not %.100v", what, s, got, wrong, at, want)
	}
}

// refuses holds that a text is no document, and why, and where.
func refuses(t *testing.T, what, s string, at int, want api.Errno) {
	t.Helper()
	got, place, wrong := markup.Read(s)
	if place != at || wrong != want {
		t.Errorf("Read, %s (%.200q): %v at %d, not %v at %d", what, s, wrong, place, want, at)
	}
	if !same(got, api.Elem{}) {
		t.Errorf("Read, %s (%.200q): %.100v beside an error", what, s, got)
	}
}

// refusesAt holds that what is wrong stands in the text where the mark ^ stands, which is no part of it.
func refusesAt(t *testing.T, what, marked string, want api.Errno) {
	t.Helper()
	ahead, behind, ok := strings.Cut(marked, "^")
	if !ok {
		t.Fatalf("%s: no place in %q", what, marked)
	}
	refuses(t, what, ahead+behind, len(ahead), want)
}

// blanks are the four bytes of space, alone and in rows.
func blanks() []string {
	return append(sample.Texts(" \t\n\r", 2)[1:], "\r\n\r\n", "\n\t \r \t\n", strings.Repeat(" ", 300))
}

// 16.2: a text of MaxDoc bytes, and of one more.
func TestReadLong(t *testing.T) {
	for _, size := range []int{mostDoc - 1, mostDoc} {
		e := ofSize(t, size)
		reads(t, "long", writeWords(e), e)
		reads(t, "long, by space", "<a/>"+strings.Repeat(" ", size-4), leaf(0, "a", ""))
		reads(t, "long, by space ahead", strings.Repeat("\n", size-4)+"<a/>", leaf(0, "a", ""))
		reads(t, "long, by what is passed over", "<?xml"+strings.Repeat("x", size-11)+"?><a/>", leaf(0, "a", ""))
	}
	for _, size := range []int{mostDoc + 1, mostDoc + 2} {
		refuses(t, "too long", writeWords(ofSize(t, size)), 0, api.ErrLong)
		refuses(t, "too long, by space", "<a/>"+strings.Repeat(" ", size-4), 0, api.ErrLong)
	}
	// Whatever else is wrong with it
	for _, b := range sample.Bytes() {
		refuses(t, "too long, all of one byte", strings.Repeat(b, mostDoc+1), 0, api.ErrLong)
	}
	refuses(t, "far too long", strings.Repeat("<", 1<<24), 0, api.ErrLong)
	refuses(t, "all space", strings.Repeat(" ", mostDoc), mostDoc, api.ErrShort)
	refuses(t, "all text", "<a>"+strings.Repeat("b", mostDoc-3), mostDoc, api.ErrShort)
	refuses(t, "all name", "<"+strings.Repeat("b", mostDoc-1), 1, api.ErrName)
	refuses(t, "ever deeper", strings.Repeat("<a>", mostDoc/3), 3*mostDeep, api.ErrDeep)
	refuses(t, "ever more kids", "<a>"+strings.Repeat("<b/>", 2999), 3+4*mostKids, api.ErrFull)
	refuses(t, "one element behind the other", strings.Repeat("<a/>", 3000), 4, api.ErrMore)
}

// 16.2: what is no right text, wherever that stands.
func TestReadCharset(t *testing.T) {
	for _, bad := range []string{"\xff", "\x80", "\xc3", "\xc0\xbc", "\xe2\x82", "\xed\xa0\x80", "\xf4\x90\x80\x80", "\xf0\x9f\x98"} {
		refuses(t, "alone", bad, 0, api.ErrCharset)
		for _, s := range []string{"<a/>", "<a>b</a>", `<?xml version="1.0"?><a xmlns="syncml:metinf" enc="b64">YQ==</a> `, "<a><![CDATA[b]]></a>", "<a><!--b--></a>", "<", "", "x", "<a><", "<a>&"} {
			for at := range len(s) + 1 {
				refuses(t, "somewhere", s[:at]+bad+s[at:], 0, api.ErrCharset)
			}
		}
		refuses(t, "too long, and not right", strings.Repeat(" ", mostDoc)+bad, 0, api.ErrLong)
	}
	reads(t, "letters of all sizes", "<a>\x7f\u0080\u07ff\u0800\ud7ff\ue000\ufffd\uffff\U00010000\U0010ffff</a>", leaf(0, "a", "\x7f\u0080\u07ff\u0800\ud7ff\ue000\ufffd\uffff\U00010000\U0010ffff"))
}

// 16.2: what stands ahead of the element.
func TestReadHead(t *testing.T) {
	a := leaf(0, "a", "")
	for _, head := range []string{"", "<?xml?>", "<?xml ?>", `<?xml version="1.0"?>`, `<?xml version="1.0" encoding="UTF-8" standalone="yes"?>`, "<?xml???>", "<?xml<a/>?>", "<?xml>?>", "<?xml-stylesheet href=''?>", "<?xmlxmlxml\x00\r\n?>", "<?xml<?xml?>", "<?xml é ?>"} {
		reads(t, "a head", head+"<a/>", a)
		refusesAt(t, "a head alone", head+"^", api.ErrShort)
		refusesAt(t, "a head, and an element's end", head+"<^/a>", api.ErrName)
		refusesAt(t, "a head, and a comment", head+"<^!-- --><a/>", api.ErrName)
		for _, blank := range blanks() {
			reads(t, "space ahead", head+blank+"<a/>", a)
			reads(t, "space behind", head+"<a/>"+blank, a)
			reads(t, "space ahead and behind", head+blank+"<a></a>"+blank, a)
			refusesAt(t, "space alone", head+blank+"^", api.ErrShort)
			refusesAt(t, "space ahead, and no element", head+blank+"^x<a/>", api.ErrField)
		}
		for b := range 128 {
			s := string(rune(b))
			if s != "<" && !strings.ContainsAny(s, " \t\r\n") {
				refusesAt(t, "a byte ahead", head+"^"+s+"<a/>", api.ErrField)
				refusesAt(t, "a byte alone", head+"^"+s, api.ErrField)
				refusesAt(t, "a byte behind", head+"<a/>^"+s, api.ErrMore)
				refusesAt(t, "a byte behind space", head+"<a></a> \n^"+s, api.ErrMore)
			}
		}
	}
	refusesAt(t, "no byte at all", "^", api.ErrShort)
	for _, s := range []string{"<?xml", "<?xml ", "<?xml?", "<?xml >", "<?xml<a/>", `<?xml version="1.0"`, `<?xml version="1.0"?`, "<?xml? ><a/>", "<?xml><a/>", "<?xml\n<a></a>\n"} {
		refusesAt(t, "no end of the head", s+"^", api.ErrShort)
	}
	for _, s := range []string{"<", "<?", "<?x", "<?xm", "<?xm?><a/>", "<?XML?><a/>", "<?Xml ?><a/>", "<? xml?><a/>", "<?a?><a/>", "<!DOCTYPE a><a/>"} {
		refusesAt(t, "a head in part", "<^"+s[1:], api.ErrName)
	}
	refusesAt(t, "a head twice", "<?xml?><^?xml?><a/>", api.ErrName)
	refusesAt(t, "a head behind space", " <^?xml?><a/>", api.ErrName)
	refusesAt(t, "a head behind the element", "<a/>^<?xml?>", api.ErrMore)
	refusesAt(t, "a head within", "<a>^<?xml?></a>", api.ErrField)
	refusesAt(t, "other space ahead", "^\u00a0<a/>", api.ErrField)
	refusesAt(t, "a mark of the order of bytes", "^\ufeff<a/>", api.ErrField)
	refusesAt(t, "other space behind", "<a/>^\u2028", api.ErrMore)
}

// 16.2: behind the element nothing may be left but space.
func TestReadMore(t *testing.T) {
	for _, s := range []string{"<a/>", "<a></a>", "<a>b</a>", "<a ><b/></a >", `<a enc="b64">YQ==</a>`} {
		for _, more := range []string{"<", "<b/>", "</a>", "<!-- -->", "<![CDATA[]]>", "&amp;", "b", ">", "/>", "\x00", "é"} {
			refusesAt(t, "more", s+"^"+more, api.ErrMore)
			refusesAt(t, "more, behind space", s+" \r\n\t^"+more, api.ErrMore)
			refusesAt(t, "more, with space", s+"^"+more+" ", api.ErrMore)
		}
		refusesAt(t, "the same again", s+"^"+s, api.ErrMore)
	}
	// More comes ahead of what tree.Check would say, as that is asked of a document that is read to its end.
	refuses(t, "a text that may not be", "<a>\x00</a>", 0, api.ErrField)
	refusesAt(t, "a text that may not be, and more", "<a>\x00</a>^.", api.ErrMore)
}

// 16.2: names: of no byte, of 32 and of 33, with what letters.
func TestReadNames(t *testing.T) {
	for _, name := range []string{"a", "Z", "A1", "z09", "SyncML", strings.Repeat("N", 31), "n" + strings.Repeat("9", 31)} {
		reads(t, "a name", "<"+name+"/>", leaf(0, name, ""))
		reads(t, "a name, with a text", "<"+name+">x</"+name+">", leaf(0, name, "x"))
		reads(t, "a kid's name", "<a><"+name+"/><"+name+">x</"+name+"></a>", node(0, "a", leaf(0, name, ""), leaf(0, name, "x")))
	}
	for _, name := range []string{"", "1", "9a", "0Aa", strings.Repeat("N", 33), "1" + strings.Repeat("N", 31), strings.Repeat("9", 33), strings.Repeat("N", 1000)} {
		for _, behind := range []string{"", "/>", ">", " ", " />", "></" + name + ">", "\x00", " x", "<"} {
			refusesAt(t, "a name that may not be", "<^"+name+behind, api.ErrName)
			refusesAt(t, "a name that may not be, behind space", "\n<^"+name+behind, api.ErrName)
		}
		if len(name) > 32 && name[0] == 'N' {
			refusesAt(t, "a kid's name that may not be", "<a><b/><^"+name+"/></a>", api.ErrName)
			refusesAt(t, "a kid's name that may not be, and no more", "<a><b/><^"+name, api.ErrName)
		} else {
			refusesAt(t, "a kid's name that begins with no letter", "<a><b/>^<"+name+"></a>", api.ErrField)
		}
	}
	for b := range 128 {
		s := string(rune(b))
		isLetter := b >= 'A' && b <= 'Z' || b >= 'a' && b <= 'z'
		isDigit := b >= '0' && b <= '9'
		switch {
		case isLetter:
			reads(t, "a letter", "<"+s+"/>", leaf(0, s, ""))
			reads(t, "a kid by a letter", "<a><"+s+"/></a>", node(0, "a", leaf(0, s, "")))
		default:
			refusesAt(t, "no letter", "<^"+s+"/>", api.ErrName)
		}
		switch {
		case isLetter || isDigit:
			reads(t, "a letter or digit behind a letter", "<a"+s+"/>", leaf(0, "a"+s, ""))
			reads(t, "a letter or digit between", "<a"+s+"Z>x</a"+s+"Z>", leaf(0, "a"+s+"Z", "x"))
		case !strings.ContainsAny(s, " \t\r\n>"):
			refusesAt(t, "neither behind a letter", "<a^"+s+"a/>", api.ErrField)
		}
	}
	for _, s := range []string{"é", "ａ", "а", "\u0000", "_", ":", "-", "."} {
		refusesAt(t, "no letter of those", "<^"+s+"a/>", api.ErrName)
		refusesAt(t, "no letter of those, behind one", "<a^"+s+"/>", api.ErrField)
		refusesAt(t, "no letter of those, of a kid", "<a>^<"+s+"a/></a>", api.ErrField)
	}
}

// 16.2: how a mark ends: /> and >, each behind space and not.
func TestReadMarks(t *testing.T) {
	reads(t, "/>", "<a/>", leaf(0, "a", ""))
	reads(t, ">", "<a></a>", leaf(0, "a", ""))
	for _, blank := range blanks() {
		reads(t, "space ahead of />", "<a"+blank+"/>", leaf(0, "a", ""))
		reads(t, "space ahead of >", "<a"+blank+">b</a>", leaf(0, "a", "b"))
		reads(t, "space ahead of an attribute, and behind", "<a"+blank+`xmlns="syncml:metinf"`+blank+"/>", leaf(1, "a", ""))
		reads(t, "space between attributes", "<a"+blank+`enc="b64"`+blank+`xmlns="syncml:metinf"`+blank+">Yg==</a>", holder(1, "a", "b"))
		refusesAt(t, "space between / and >", "<a"+blank+"^/"+blank+">", api.ErrField)
		refusesAt(t, "space, and no more", "<a"+blank+"^", api.ErrField)
		refusesAt(t, "space ahead of the name", "<^"+blank+"a/>", api.ErrName)
		refusesAt(t, "space ahead of the name of a kid", "<a>^<"+blank+"b/></a>", api.ErrField)
	}
	for _, s := range []string{"", "/", "/ >", "//>", "<", "<a/>", "=", "&", "\"", "'", "?>", "!", "\x00", "\x0b", "\u00a0", "é"} {
		refusesAt(t, "no end of the mark", "<a^"+s, api.ErrField)
		refusesAt(t, "no end of the mark, behind space", "<a ^"+s, api.ErrField)
		refusesAt(t, "no end of the mark, behind an attribute", `<a enc="b64"^`+s, api.ErrField)
		refusesAt(t, "no end of the mark, behind an attribute and space", "<a enc=\"b64\"\n^"+s, api.ErrField)
		refusesAt(t, "no end of a kid's mark", "<a><b^"+s, api.ErrField)
	}
	reads(t, "a second >", "<a>></a>", leaf(0, "a", ">"))
	refusesAt(t, "a second /", "<a^//>", api.ErrField)
	refusesAt(t, "a second > behind />", "<a/>^>", api.ErrMore)
	reads(t, "a second > of a kid, space", "<a><b/> </a>", node(0, "a", leaf(0, "b", "")))
	reads(t, "/ within", "<a>/</a>", leaf(0, "a", "/"))
}

// 16.2: attributes: each, in either order, and what may not be.
func TestReadAttributes(t *testing.T) {
	for page, space := range spaces {
		reads(t, "a page", `<a xmlns="`+space+`"/>`, leaf(page, "a", ""))
		reads(t, "a page, with a text", `<a xmlns="`+space+`">b</a>`, leaf(page, "a", "b"))
		reads(t, "a page, then enc", `<a xmlns="`+space+`" enc="b64">Yg==</a>`, holder(page, "a", "b"))
		reads(t, "enc, then a page", `<a enc="b64" xmlns="`+space+`">Yg==</a>`, holder(page, "a", "b"))
		reads(t, "a page of all around that name none", `<a xmlns="`+space+`"><b><c/><d>e</d></b><f enc="b64">Yg==</f></a>`, node(page, "a", node(page, "b", leaf(page, "c", ""), leaf(page, "d", "e")), holder(page, "f", "b")))
		reads(t, "a page within", `<a><b xmlns="`+space+`"><c/></b><d/></a>`, node(0, "a", node(page, "b", leaf(page, "c", "")), leaf(0, "d", "")))
		reads(t, "a page within each other one", `<a xmlns="syncml:devinf"><b xmlns="`+space+`"><c xmlns="syncml:metinf"/><d/></b><e/></a>`, node(2, "a", node(page, "b", leaf(1, "c", ""), leaf(page, "d", "")), leaf(2, "e", "")))
		for _, none := range []string{space + " ", " " + space, strings.ToUpper(space) + ".", space[1:], space[:len(space)-1], space + "/>", space + "\n"} {
			refusesAt(t, "a page that is none", `<a ^xmlns="`+none+`"/>`, api.ErrKind)
			refusesAt(t, "a page that is none, behind enc", `<a enc="b64"  ^xmlns="`+none+`"/>`, api.ErrKind)
			refusesAt(t, "a page that is none, of a kid", `<a xmlns="`+space+`"><b ^xmlns="`+none+`"/></a>`, api.ErrKind)
			refusesAt(t, "a page that is none, and all else", `<a ^xmlns="`+none+`"`, api.ErrKind)
		}
		refusesAt(t, "a page twice", `<a xmlns="`+space+`" ^xmlns="`+space+`"/>`, api.ErrTwice)
		refusesAt(t, "a page twice, and enc between", `<a xmlns="`+space+`" enc="b64" ^xmlns="`+space+`"/>`, api.ErrTwice)
		refusesAt(t, "a page, then one that is none", `<a xmlns="`+space+`" ^xmlns="x"/>`, api.ErrTwice)
		refusesAt(t, "a page, then one without an end", `<a xmlns="`+space+`" ^xmlns="`, api.ErrTwice)
		refusesAt(t, "no space ahead of a page", `<a enc="b64"^xmlns="`+space+`"/>`, api.ErrField)
		refusesAt(t, "no space ahead of enc", `<a xmlns="`+space+`"^enc="b64"/>`, api.ErrField)
		refusesAt(t, "no space, and twice", `<a xmlns="`+space+`"^xmlns="`+space+`"/>`, api.ErrField)
		reads(t, "two elements with a page each", `<a xmlns="`+space+`"><b xmlns="`+space+`"/><b xmlns="`+space+`"/></a>`, node(page, "a", leaf(page, "b", ""), leaf(page, "b", "")))
	}
	for _, none := range []string{"", "x", "0", "1", "-1", "SyncML", "syncml:syncml1.2", "SYNCML:METINF", "\x00", "é", "&amp;", "syncml&#58;metinf", "<", ">", "/>", "'syncml:metinf'"} {
		refusesAt(t, "a page that is none", `<a ^xmlns="`+none+`"/>`, api.ErrKind)
	}
	for _, none := range []string{"", "b", "b6", "b644", "B64", " b64", "b64 ", "64", "base64", "b64\n", "&#98;64", "<", ">", "/>", "\x00", "é", "'b64'"} {
		refusesAt(t, "an enc that is none", `<a ^enc="`+none+`"/>`, api.ErrKind)
		refusesAt(t, "an enc that is none, behind a page", `<a xmlns="syncml:metinf"	^enc="`+none+`">Yg==</a>`, api.ErrKind)
		refusesAt(t, "an enc that is none, and all else", `<a ^enc="`+none+`"x`, api.ErrKind)
		refusesAt(t, "enc, then one that is none", `<a enc="b64" ^enc="`+none+`"/>`, api.ErrTwice)
	}
	refusesAt(t, "enc twice", `<a enc="b64" ^enc="b64"/>`, api.ErrTwice)
	refusesAt(t, "enc twice, and a page between", `<a enc="b64" xmlns="syncml:metinf" ^enc="b64"/>`, api.ErrTwice)
	refusesAt(t, "enc twice, and no space", `<a enc="b64"^enc="b64"/>`, api.ErrField)
	refusesAt(t, "enc three times", `<a enc="b64" ^enc="b64" enc="b64"/>`, api.ErrTwice)
	refusesAt(t, "a page that is none, then enc twice", `<a ^xmlns="" enc="b64" enc="b64"/>`, api.ErrKind)
	reads(t, "two elements with enc each", `<a><b enc="b64">Yg==</b><b enc="b64">Yw==</b><b>d</b></a>`, node(0, "a", holder(0, "b", "b"), holder(0, "b", "c"), leaf(0, "b", "d")))
}

// 16.2: attributes of other names, written in another way, or without an end.
func TestReadOtherAttributes(t *testing.T) {
	for _, attribute := range []string{`x="y"`, `xml="syncml:metinf"`, `xmlns:a="syncml:metinf"`, `xmlns='syncml:metinf'`, `xmlns ="syncml:metinf"`, `xmlns= "syncml:metinf"`, `xmlns=syncml:metinf`, `xmlns`, `xmlns=`, `XMLNS="syncml:metinf"`, `Xmlns="syncml:metinf"`, `xmln`, `mlns="syncml:metinf"`,
		`enc='b64'`, `enc ="b64"`, `enc= "b64"`, `enc=b64`, `enc`, `enc=`, `en`, `ENC="b64"`, `Enc="b64"`, `nc="b64"`, `encoding="b64"`, `"`, `=""`, `x`, `/enc="b64"`, `.enc="b64"`, `1`, `é="b64"`, `<b/>`} {
		for _, behind := range []string{"", " ", "/>", ">x</a>", " />"} {
			refusesAt(t, "another attribute", "<a ^"+attribute+behind, api.ErrField)
			refusesAt(t, "another attribute behind a page", `<a xmlns="syncml:metinf" ^`+attribute+behind, api.ErrField)
			refusesAt(t, "another attribute behind enc", "<a enc=\"b64\"\t\n^"+attribute+behind, api.ErrField)
			refusesAt(t, "another attribute of a kid", "<a><b ^"+attribute+behind, api.ErrField)
			refusesAt(t, "another attribute, without space", `<a enc="b64"^`+attribute+behind, api.ErrField)
		}
	}
	for _, attribute := range []string{`xmlns="`, `xmlns="syncml:metinf`, `enc="`, `enc="b64`, `enc="b64/>`, `xmlns="></a>`, `enc="b64'/>`, `xmlns="é`} {
		refusesAt(t, "a value without an end", "<a "+attribute+"^", api.ErrShort)
		refusesAt(t, "a kid's value without an end", "<a><b>c</b><d "+attribute+"^", api.ErrShort)
	}
	refusesAt(t, "a value that ends with the next one's", `<a ^xmlns="syncml:metinf enc="b64"/>`, api.ErrKind)
	refusesAt(t, "a value that ends in a text", `<a ^xmlns="/>b"</a>`, api.ErrKind)
	refusesAt(t, "no space behind the name", `<a^="b"/>`, api.ErrField)
	refusesAt(t, "the name goes on", `<axmlns^="syncml:metinf"/>`, api.ErrField)
	refusesAt(t, "an attribute at the end", `<a></a ^enc="b64">`, api.ErrField)
}

// 16.2: words with &.
func TestReadWords(t *testing.T) {
	for word, letter := range map[string]string{"&amp;": "&", "&lt;": "<", "&gt;": ">", "&quot;": "\"", "&apos;": "'"} {
		reads(t, "a word", "<a>"+word+"</a>", leaf(0, "a", letter))
		reads(t, "a word twice", "<a>b"+word+word+"c</a>", leaf(0, "a", "b"+letter+letter+"c"))
		refusesAt(t, "a word beside a kid", "<a><b/>"+word+"^</a>", api.ErrState)
		for at := 1; at < len(word); at++ {
			refusesAt(t, "a word cut off, at the end", "<a>^"+word[:at], api.ErrField)
			refusesAt(t, "a word cut off", "<a>^"+word[:at]+"</a>", api.ErrField)
			refusesAt(t, "a word with a byte less", "<a>b^"+word[:at]+word[at+1:]+"</a>", api.ErrField)
			refusesAt(t, "a word with a byte more", "<a>b^"+word[:at]+"x"+word[at:]+";</a>", api.ErrField)
			refusesAt(t, "a word with a blank", "<a>b^"+word[:at]+" "+word[at:]+"</a>", api.ErrField)
		}
		refusesAt(t, "a word in capitals", "<a>^"+strings.ToUpper(word)+"</a>", api.ErrField)
		reads(t, "a word of a word", "<a>&amp;"+word[1:]+"</a>", leaf(0, "a", word))
		reads(t, "a word with a second ;", "<a>"+word+";</a>", leaf(0, "a", letter+";"))
	}
	for _, word := range []string{"&", "&;", "& ;", "&x;", "&nbsp;", "&a;", "&amp", "&ampl;", "&amp lt;", "&&amp;", "&lt", "&#", "&#;", "&#x41;", "&#X41;", "&#xa;", "&#-9;", "&#+9;", "&# 9;", "&#9 ;", "&#9", "&#65", "&#6_5;", "&#6.5;", "&#1e1;", "&#b1;", "&##9;", "&#９;", "&#٣;", "&amp&amp;", "&</a>;", "&<b/>;"} {
		refusesAt(t, "no word", "<a>b^"+word+"</a>", api.ErrField)
		refusesAt(t, "no word, and nothing behind", "<a>b^"+word, api.ErrField)
		refusesAt(t, "no word, and a ; far away", "<a>b^"+word+strings.Repeat(" ", 3000)+"</a>", api.ErrField)
		refusesAt(t, "no word, behind one", "<a>&amp;^"+word+"</a>", api.ErrField)
		refusesAt(t, "no word, beside a kid", "<a><b/>^"+word+"</a>", api.ErrField)
	}
}

// 16.2: letters by their numbers.
func TestReadNumbers(t *testing.T) {
	for _, n := range []int{9, 10, 32, 33, 38, 60, 62, 65, 127, 128, 233, 255, 256, 2047, 2048, 8364, 0xd7ff, 0xe000, 0xfffd, 0xfffe, 0xffff, 0x10000, 0x1f600, 99999, 999999, 0x10fffe, 0x10ffff} {
		reads(t, "a number", fmt.Sprintf("<a>&#%d;</a>", n), leaf(0, "a", string(rune(n))))
		reads(t, "a number of seven digits", fmt.Sprintf("<a>b&#%07d;c</a>", n), leaf(0, "a", "b"+string(rune(n))+"c"))
		refusesAt(t, "a number of eight digits", fmt.Sprintf("<a>b^&#%08d;c</a>", n), api.ErrField)
		refusesAt(t, "a number of thirty digits", fmt.Sprintf("<a>b^&#%030d;c</a>", n), api.ErrField)
		refusesAt(t, "a number without ;", fmt.Sprintf("<a>b^&#%dc</a>", n), api.ErrField)
	}
	for n := range 32 {
		switch n {
		case 9, 10:
		case 13:
			refuses(t, "13, which tree.Check refuses", "<a>b&#13;</a>", 0, api.ErrField)
			refusesAt(t, "13, and something behind it", "<a>b&#13;</a>^x", api.ErrMore)
		default:
			refusesAt(t, "a number below 32", fmt.Sprintf("<a>b^&#%d;</a>", n), api.ErrRange)
			refusesAt(t, "a number below 32, of seven digits", fmt.Sprintf("<a>b^&#%07d;</a>", n), api.ErrRange)
			refusesAt(t, "a number below 32, of eight digits", fmt.Sprintf("<a>b^&#%08d;</a>", n), api.ErrField)
		}
	}
	for _, n := range []int{0xd800, 0xd801, 0xdbff, 0xdc00, 0xdfff, 0x110000, 0x110001, 1200000, 1999999, 9999999} {
		refusesAt(t, "no letter's number", fmt.Sprintf("<a>b^&#%d;</a>", n), api.ErrRange)
		refusesAt(t, "no letter's number, and nothing behind it", fmt.Sprintf("<a>b^&#%d;", n), api.ErrRange)
		refusesAt(t, "no letter's number, beside a kid", fmt.Sprintf("<a><b/>^&#%d;</a>", n), api.ErrRange)
	}
	for _, n := range []string{"10000000", "99999999", "4294967305", "18446744073709551625", "00000000"} {
		refusesAt(t, "a number of more than seven digits", "<a>^&#"+n+";</a>", api.ErrField)
	}
	for n := 32; n < 127; n++ {
		reads(t, "a letter that anybody prints", "<a>&#"+strconv.Itoa(n)+";</a>", leaf(0, "a", string(rune(n))))
	}
	reads(t, "13 among letters of six bits", `<a enc="b64">Yg&#13;=&#10;=&#9; </a>`, holder(0, "a", "b"))
	reads(t, "a letter of six bits by its number", `<a enc="b64">&#89;g&#61;&#0000061;</a>`, holder(0, "a", "b"))
	reads(t, "a word by its numbers", "<a>&#38;amp;&#60;b/&#62;</a>", leaf(0, "a", "&amp;<b/>"))
}

// 16.2: CDATA.
func TestReadCData(t *testing.T) {
	cdata := func(s string) string { return "<a><![CDATA[" + s + "]]></a>" }
	for _, s := range []string{"", "b", "<", "&", "<b/>", "&amp;", "</a>", "<!-- -->", "<![CDATA[", "]", "]]", ">", "]>", "] ]>", "]]]]", " \n\t", "\"'", "é", "<![CDATA[<![CDATA["} {
		reads(t, "CDATA", cdata(s), leaf(0, "a", s))
		reads(t, "CDATA among a text", "<a>b&lt;<![CDATA["+s+"]]>c</a>", leaf(0, "a", "b<"+s+"c"))
		reads(t, "CDATA twice", "<a><![CDATA["+s+"]]><![CDATA["+s+"]]></a>", leaf(0, "a", s+s))
		refusesAt(t, "CDATA without an end", "<a>b<![CDATA["+s+"^", api.ErrShort)
		refusesAt(t, "CDATA, and no end of the element", "<a><![CDATA["+s+"]]>^", api.ErrShort)
	}
	reads(t, "the first end counts", "<a><![CDATA[b]]>c]]></a>", leaf(0, "a", "bc]]>"))
	reads(t, "brackets ahead of the end", "<a><![CDATA[b]]]]></a>", leaf(0, "a", "b]]"))
	reads(t, "CDATA among letters of six bits", `<a enc="b64">Y<![CDATA[g=]]>=</a>`, holder(0, "a", "b"))
	reads(t, "space as CDATA beside kids", "<a><![CDATA[ \n]]><b/><![CDATA[]]></a>", node(0, "a", leaf(0, "b", "")))
	refusesAt(t, "CDATA beside kids", "<a><b/><![CDATA[.]]>^</a>", api.ErrState)
	refuses(t, "a carriage return in CDATA, which tree.Check refuses", cdata("\r"), 0, api.ErrField)
	refuses(t, "a nought in CDATA, which tree.Check refuses", cdata("\x00"), 0, api.ErrField)
	for _, s := range []string{"<!", "<![", "<![C", "<![CDATA", "<![CDATA]]>", "<![cdata[b]]>", "<![ CDATA[b]]>", "<! [CDATA[b]]>", "<[CDATA[b]]>", "<![CDATA [b]]>", "<!DOCTYPE b>", "<!>"} {
		refusesAt(t, "nearly CDATA", "<a>b^"+s, api.ErrField)
		refusesAt(t, "nearly CDATA, and an end", "<a>b^"+s+"</a>", api.ErrField)
	}
	for _, s := range []string{"<a><![CDATA[b]]", "<a><![CDATA[b]] >", "<a><![CDATA[b] ]></a>", "<a><![CDATA[b</a>", "<a><![CDATA[]>", "<a><![CDATA[>", "<a><b/><![CDATA["} {
		refusesAt(t, "no end of CDATA", s+"^", api.ErrShort)
	}
	refusesAt(t, "CDATA outside", "^"+"]]><a/>", api.ErrField)
	reads(t, "an end alone is a text", "<a>]]></a>", leaf(0, "a", "]]>"))
}

// 16.2: comments.
func TestReadComments(t *testing.T) {
	for _, s := range []string{"", "b", "-", "--", "<", "&", "&amp", "<b/>", "</a>", "<!--", "<![CDATA[", "]]>", ">", "->", "- ->", "--b", "\r\x00", "é", "----"} {
		comment := "<!--" + s + "-->"
		reads(t, "a comment", "<a>"+comment+"</a>", leaf(0, "a", ""))
		reads(t, "a comment within a text", "<a>b"+comment+"c"+comment+"</a>", leaf(0, "a", "bc"))
		reads(t, "a comment between kids", "<a>"+comment+"<b/>"+comment+comment+"<c/>"+comment+"</a>", node(0, "a", leaf(0, "b", ""), leaf(0, "c", "")))
		reads(t, "a comment among letters of six bits", `<a enc="b64">Y`+comment+"g="+comment+"=</a>", holder(0, "a", "b"))
		reads(t, "a comment between two letters of a word's neighbours", "<a>&lt;"+comment+"amp;</a>", leaf(0, "a", "<amp;"))
		refusesAt(t, "a comment without an end", "<a>b<!--"+s+"^", api.ErrShort)
		refusesAt(t, "a comment without an end, behind a kid", "<a><b/><!--"+s+"^", api.ErrShort)
		refusesAt(t, "a comment, and no end of the element", "<a>"+comment+"^", api.ErrShort)
	}
	reads(t, "the first end counts", "<a><!--b-->c--></a>", leaf(0, "a", "c-->"))
	reads(t, "an end alone is a text", "<a>--></a>", leaf(0, "a", "-->"))
	for _, s := range []string{"<a><!-->", "<a><!--->", "<a><!--></a>", "<a><!---></a>", "<a><!--b--", "<a><!--b-- >", "<a><!--b</a>"} {
		refusesAt(t, "no end of a comment", s+"^", api.ErrShort)
	}
	for _, s := range []string{"<!-", "<!- -->", "<! -- -->", "<--b-->", "<!_-b-->"} {
		refusesAt(t, "nearly a comment", "<a>^"+s+"</a>", api.ErrField)
	}
	refusesAt(t, "a comment within a word", "<a>^&am<!-- -->p;</a>", api.ErrField)
	refusesAt(t, "a comment within a mark", "<a ^<!-- -->/>", api.ErrField)
}

// 16.2: < and another byte than a letter.
func TestReadOpening(t *testing.T) {
	for b := range 128 {
		s := string(rune(b))
		if b == '/' || b >= 'A' && b <= 'Z' || b >= 'a' && b <= 'z' {
			continue
		}
		refusesAt(t, "< and another byte", "<a>^<"+s, api.ErrField)
		refusesAt(t, "< and another byte, and others", "<a>^<"+s+"b/></a>", api.ErrField)
		refusesAt(t, "< and another byte, behind a text", "<a>bc^<"+s+"></a>", api.ErrField)
		refusesAt(t, "< and another byte, behind a kid", "<a><b/>^<"+s+"></a>", api.ErrField)
	}
	refusesAt(t, "< at the end", "<a>^<", api.ErrField)
	refusesAt(t, "< at the end, behind a text", "<a>b^<", api.ErrField)
	refusesAt(t, "< at the end, behind a kid", "<a><b/>^<", api.ErrField)
	refusesAt(t, "< ahead of a kid", "<a>^<<b/></a>", api.ErrField)
	refusesAt(t, "< at the end of all", "<^", api.ErrName)
	refusesAt(t, "no byte within", "<a>^", api.ErrShort)
	refusesAt(t, "no end within", "<a>b^", api.ErrShort)
	refusesAt(t, "no end within, behind a kid", "<a><b/>^", api.ErrShort)
	refusesAt(t, "no end within a kid", "<a><b>^", api.ErrShort)
	refusesAt(t, "no end behind a kid's", "<a><b></b>^", api.ErrShort)
}

// 16.2: 12 deep and 13, 200 kids and 201; the first letter of the kid is enough.
func TestReadMany(t *testing.T) {
	open := strings.Repeat("<Add>", mostDeep)
	shut := strings.Repeat("</Add>", mostDeep)
	reads(t, "12 deep", open+shut, nest(mostDeep))
	reads(t, "12 deep, with a text", open+"b"+shut, nest(mostDeep-1, leaf(0, "Add", "b")))
	reads(t, "12 deep, the last one bare", open[5:]+"<Add/>"+shut[6:], nest(mostDeep))
	reads(t, "12 deep, twice", "<a>"+strings.Repeat(open[5:]+shut[6:], 2)+"</a>", node(0, "a", nest(mostDeep-1), nest(mostDeep-1)))
	row := strings.Repeat("<b/>", mostKids)
	kids := slices.Repeat([]api.Elem{leaf(0, "b", "")}, mostKids)
	reads(t, "200 kids", "<a>"+row+"</a>", node(0, "a", kids...))
	reads(t, "200 kids of each of two", "<a><a>"+row+"</a><a>"+row+"</a></a>", node(0, "a", node(0, "a", kids...), node(0, "a", kids...)))
	reads(t, "200 kids, 12 deep", open[5:]+row+shut[6:], nest(mostDeep-1, kids...))
	for _, behind := range []string{"b", "b/>", "b></b></a>", "b1 x", "bbbbbbbbbbbbbbbbbbbbbbbbbbbbbbbbbbbbbb", "Z\x00"} {
		refusesAt(t, "13 deep", open+"^<"+behind, api.ErrDeep)
		refusesAt(t, "13 deep, behind a text", open+"b&amp;^<"+behind, api.ErrDeep)
		refusesAt(t, "201 kids", "<a>"+row+"^<"+behind, api.ErrFull)
		refusesAt(t, "201 kids, space between", "<a>"+row+" \n^<"+behind, api.ErrFull)
		refusesAt(t, "201 kids of a kid", "<a><b/><a>"+row+"^<"+behind, api.ErrFull)
		refusesAt(t, "201 kids, 12 deep", open[5:]+row+"^<"+behind, api.ErrFull)
	}
	for _, behind := range []string{"", "1", "<", "!", "!-", "?", " ", "é"} {
		refusesAt(t, "13 deep, but no letter", open+"^<"+behind, api.ErrField)
		refusesAt(t, "201 kids, but no letter", "<a>"+row+"^<"+behind, api.ErrField)
	}
	reads(t, "12 deep, and a comment", open+"<!--<b>--><![CDATA[<b>]]>"+shut, nest(mostDeep-1, leaf(0, "Add", "<b>")))
	reads(t, "200 kids, and a comment", "<a>"+row+"<!--<b/>--></a>", node(0, "a", kids...))
	// As many elements in all as may be, and more: each list of kids is not too long.
	refuses(t, "2001 elements", "<a>"+strings.Repeat("<a>"+strings.Repeat("<b/>", 199)+"</a>", 10)+"</a>", 0, api.ErrFull)
	got, at, wrong := markup.Read("<a>" + strings.Repeat("<a>"+strings.Repeat("<b/>", 198)+"</a>", 10) + "<b/><b/><b/><b/><b/><b/><b/><b/><b/></a>")
	if wrong != api.OK || at != 0 || len(got.Kids) != 19 || len(got.Kids[9].Kids) != 198 {
		t.Errorf("2000 elements: %d kids, %v at %d", len(got.Kids), wrong, at)
	}
}

// 16.2: an element's end.
func TestReadEnds(t *testing.T) {
	for _, blank := range append(blanks(), "") {
		reads(t, "space behind the name", "<ab>c</ab"+blank+">", leaf(0, "ab", "c"))
		reads(t, "space behind a kid's name", "<ab><c>d</c"+blank+"></ab>", node(0, "ab", leaf(0, "c", "d")))
		refusesAt(t, "no > behind the name", "<ab>c</ab"+blank+"^", api.ErrShort)
		for _, b := range []string{"/", "<", "=", ".", "\x00", "é", "&", "/>", "\"", "\x0b"} {
			refusesAt(t, "another byte behind the name", "<ab>c</ab"+blank+"^"+b+">", api.ErrField)
			refusesAt(t, "another byte behind the name, and no more", "<ab>c</ab"+blank+"^"+b, api.ErrField)
		}
		if blank != "" {
			refusesAt(t, "a letter behind space", "<ab>c</ab"+blank+"^c>", api.ErrField)
			refusesAt(t, "space ahead of the name", "<ab>c</^"+blank+"ab>", api.ErrEnd)
			refusesAt(t, "space between < and /", "<ab>c^<"+blank+"/ab>", api.ErrField)
		}
	}
	for _, name := range []string{"", "a", "b", "aB", "AB", "Ab", "ba", "abb", "ab1", "xy", "aab", "1", "ab0123456789012345678901234567890123456789"} {
		for _, behind := range []string{">", "", " ", " >", "/>", "<", "\x00", "></ab>"} {
			refusesAt(t, "another name", "<ab>c</^"+name+behind, api.ErrEnd)
			refusesAt(t, "another name, of a kid", "<ab><ab>c</^"+name+behind, api.ErrEnd)
			refusesAt(t, "another name, behind a kid", "<ab><b/>c</^"+name+behind, api.ErrEnd)
		}
	}
	refusesAt(t, "the end of the one around", "<ab><c></^ab></c></ab>", api.ErrEnd)
	refusesAt(t, "an end behind the end", "<ab></ab>^</ab>", api.ErrMore)
	refusesAt(t, "an end behind a bare one", "<ab/>^</ab>", api.ErrMore)
	refusesAt(t, "a name with another byte in it", "<ab>c</^a.b>", api.ErrEnd)
	refusesAt(t, "a name with another byte behind it", "<ab>c</ab^:b>", api.ErrField)
	refusesAt(t, "no name, another byte", "<ab>c</^!>", api.ErrEnd)
	long := "N" + strings.Repeat("n", 31)
	reads(t, "a name of 32", "<"+long+"></"+long+">", leaf(0, long, ""))
	refusesAt(t, "a name of 32, and one more", "<"+long+"></^"+long+"n>", api.ErrEnd)
	refusesAt(t, "a name of 32, one less", "<"+long+"></^"+long[1:]+">", api.ErrEnd)
}

// 16.2: text beside kids.
func TestReadBeside(t *testing.T) {
	want := node(0, "a", leaf(0, "b", "c"), leaf(0, "d", ""))
	for _, s := range append(blanks(), "&#32;", "&#9;&#10;&#13;&#0000032;", "<![CDATA[ \n\r\t]]>", "<!-- x -->", "<![CDATA[]]>", "<!----> <!---->&#32;") {
		reads(t, "space first", "<a>"+s+"<b>c</b><d/></a>", want)
		reads(t, "space between", "<a><b>c</b>"+s+"<d/></a>", want)
		reads(t, "space last", "<a><b>c</b><d/>"+s+"</a>", want)
		reads(t, "space everywhere", "<a>"+s+"<b>c</b>"+s+"<d/>"+s+"</a >", want)
	}
	for _, blank := range blanks() {
		if !strings.Contains(blank, "\r") {
			reads(t, "space alone", "<a>"+blank+"</a>", leaf(0, "a", blank))
			reads(t, "space of a kid", "<a> <b>"+blank+"</b> </a>", node(0, "a", leaf(0, "b", blank)))
		}
	}
	for _, s := range []string{"x", ".", "&amp;", "&lt;", "&quot;", "&#65;", "&#160;", "\u00a0", "\x00", "\x0b", "\x0c", "\u0085", "\u2028", "<![CDATA[x]]>", "<![CDATA[<c/>]]>", "]]>", ">", " x ", "&#32;.&#32;"} {
		refusesAt(t, "text first", "<a>"+s+"<b>c</b><d/>^</a>", api.ErrState)
		refusesAt(t, "text between", "<a><b>c</b>"+s+"<d/>^</a>", api.ErrState)
		refusesAt(t, "text last", "<a><b>c</b><d/>"+s+"^</a>", api.ErrState)
		refusesAt(t, "text last, and space", "<a><b>c</b><d/>"+s+" \n^</a >", api.ErrState)
		refusesAt(t, "text beside a kid's kid", "<a><b>"+s+"<d/>^</b></a>", api.ErrState)
		refusesAt(t, "text beside a kid of two levels", "<a>"+s+"<b><d/></b>^</a>", api.ErrState)
		// What is wrong with the end comes first.
		refusesAt(t, "text, and another end", "<a>"+s+"<b/></^b>", api.ErrEnd)
		refusesAt(t, "text, and an end cut off", "<a>"+s+"<b/></a^", api.ErrShort)
		refusesAt(t, "text, and an end with another byte", "<a>"+s+"<b/></a ^x>", api.ErrField)
		refusesAt(t, "text, and a second kid that is not right", "<a>"+s+"<b/><c^", api.ErrField)
	}
	refusesAt(t, "text of two, in two places", "<a>x<b>y<c/>^</b></a>", api.ErrState)
	refusesAt(t, "text ahead of a kid that is not right", "<a>x<b>&#9;</b><c>^&#1;</c></a>", api.ErrRange)
}

// 16.2: what stands with enc.
func TestReadEncoded(t *testing.T) {
	enc := func(s string) string { return `<a enc="b64">` + s + "</a>" }
	for s, bytes := range map[string]string{"YQ==": "a", "YWE=": "aa", "YWFh": "aaa", "AA==": "\x00", "/+8=": "\xff\xef", "Y W\tF\nh\r\n": "aaa", " YQ = = ": "a", "PCY+": "<&>"} {
		reads(t, "bytes", enc(s), holder(0, "a", bytes))
		reads(t, "bytes of a kid", "<x>"+enc(s)+"</x>", node(0, "x", holder(0, "a", bytes)))
	}
	for _, s := range append(blanks(), "", "<!-- x -->", "<![CDATA[]]>", "&#32;&#13;") {
		reads(t, "no bytes", enc(s), leaf(0, "a", ""))
	}
	reads(t, "no bytes, in a mark", `<a enc="b64"/>`, leaf(0, "a", ""))
	reads(t, "no bytes of a kid", `<x><a enc="b64" /><a enc="b64"></a></x>`, node(0, "x", leaf(0, "a", ""), leaf(0, "a", "")))
	for s, want := range map[string]api.Errno{
		"Y": api.ErrShort, "YQ": api.ErrShort, "YQ=": api.ErrShort, "YWFhY": api.ErrShort,
		"YR==": api.ErrField, "YWF=": api.ErrField, "=": api.ErrField, "Y===": api.ErrField, "YQ=a": api.ErrField, ".": api.ErrField, "Y!==": api.ErrField, "\x00": api.ErrField, "é": api.ErrField, "&lt;": api.ErrField, "<![CDATA[<]]>": api.ErrField, "YQ==!": api.ErrField, "Y-_=": api.ErrField,
		"YQ==YQ==": api.ErrMore, "YQ===": api.ErrMore, "YWE=Y": api.ErrMore,
	} {
		refusesAt(t, "no bytes as letters", `<a enc="b64">`+s+"^</a>", want)
		refusesAt(t, "no bytes as letters, of a kid", `<x><b/><a enc="b64">`+s+"^</a ></x>", want)
		refusesAt(t, "no bytes as letters, and another end", `<a enc="b64">`+s+"</^b>", api.ErrEnd)
		refusesAt(t, "no bytes as letters, and no end", `<a enc="b64">`+s+"^", api.ErrShort)
		refusesAt(t, "no bytes as letters, and an end cut off", `<a enc="b64">`+s+"</a^", api.ErrShort)
		refusesAt(t, "no bytes as letters, beside a kid", `<a enc="b64"><b/>`+s+"^</a>", api.ErrState)
	}
	for _, s := range []string{"", " ", "YQ==", "x"} {
		refusesAt(t, "kids with enc", `<a enc="b64">`+s+"<b/>^</a>", api.ErrState)
		refusesAt(t, "kids of a kid with enc", `<x><a enc="b64"><b/>`+s+"^</a></x>", api.ErrState)
		refusesAt(t, "kids with enc, and another end", `<a enc="b64"><b/>`+s+"</^b>", api.ErrEnd)
	}
	reads(t, "enc of the one around is not the kid's", `<x><a enc="b64">YQ==</a><a>YQ==</a></x>`, node(0, "x", holder(0, "a", "a"), leaf(0, "a", "YQ==")))
	refusesAt(t, "enc around kids with enc", `<a enc="b64"><b enc="b64">YQ==</b>^</a>`, api.ErrState)
	long := strings.Repeat("\xff", mostText)
	reads(t, "4000 bytes", writeWords(holder(0, "a", long)), holder(0, "a", long))
	refuses(t, "4001 bytes", writeWords(holder(0, "a", long+"\x00")), 0, api.ErrLong)
	reads(t, "4000 bytes with space between", enc(strings.Repeat("/ ", 5333)+"w = ="), holder(0, "a", long))
}

// 16.2: an element that is whole, but not right.
func TestReadNotRight(t *testing.T) {
	for b := range 32 {
		s := string(rune(b))
		if s == "\t" || s == "\n" {
			reads(t, "a byte below 32", "<a>"+s+"b</a>", leaf(0, "a", s+"b"))
			continue
		}
		refuses(t, "a byte below 32", "<a>"+s+"b</a>", 0, api.ErrField)
		refuses(t, "a byte below 32 of a kid", "<a><b/><c>"+s+"b</c></a>", 0, api.ErrField)
		refuses(t, "a byte below 32 in CDATA", "<a><![CDATA["+s+"]]></a>", 0, api.ErrField)
		reads(t, "a byte below 32 in a comment", "<a><!--"+s+"--></a>", leaf(0, "a", ""))
	}
	long := strings.Repeat("d", mostText)
	reads(t, "a text of 4000", "<a>"+long+"</a>", leaf(0, "a", long))
	refuses(t, "a text of 4001", "<a>"+long+"d</a>", 0, api.ErrLong)
	refuses(t, "a text of 4001, by a word", "<a>"+long+"&lt;</a>", 0, api.ErrLong)
	reads(t, "a text of 4000, of words", "<a>"+strings.Repeat("&lt;", 2000)+strings.Repeat("é", 1000)+"</a>", leaf(0, "a", strings.Repeat("<", 2000)+strings.Repeat("é", 1000)))
	refuses(t, "a text of 4001, of letters of two bytes", "<a>d"+strings.Repeat("é", 2000)+"</a>", 0, api.ErrLong)
	reads(t, "space of 4001 beside a kid", "<a>"+strings.Repeat(" ", mostText+1)+"<b/></a>", node(0, "a", leaf(0, "b", "")))
	refuses(t, "a text that may not be, and one too long", "<a><b>\x00</b><c>"+long+"d</c></a>", 0, api.ErrField)
	refuses(t, "a text too long, and one that may not be", "<a><c>"+long+"d</c><b>\x00</b></a>", 0, api.ErrLong)
}

// 16.2: a whole message, as others write it.
func TestReadMessage(t *testing.T) {
	s := "<?xml version='1.0' encoding='UTF-8'?>\r\n<!-- not here -->"
	refuses(t, "a comment ahead", s, len("<?xml version='1.0' encoding='UTF-8'?>\r\n<"), api.ErrName)
	s = "<?xml version=\"1.0\" encoding=\"UTF-8\"?>\r\n" +
		"<SyncML xmlns=\"SYNCML:SYNCML1.2\">\r\n" +
		"  <SyncHdr><VerDTD>1.2</VerDTD> <!-- the head's -->\r\n" +
		"    <Meta><MaxMsgSize xmlns='" // an attribute that is written in another way
	refuses(t, "an attribute in other marks", s, len(s)-len("xmlns='"), api.ErrField)
	s = s[:len(s)-1] + "\"syncml:metinf\">700</MaxMsgSize\t>\r\n" +
		"<MetInf xmlns=\"syncml:metinf\"><Size>5</Size>&#13;<Data xmlns=\"SYNCML:SYNCML1.2\" enc=\"b64\">\r\nYW\r\nE=\r\n</Data></MetInf></Meta></SyncHdr>\r\n" +
		"<SyncBody ><Final />\r\n</SyncBody></SyncML>\r\n"
	reads(t, "a message", s, node(0, "SyncML",
		node(0, "SyncHdr", leaf(0, "VerDTD", "1.2"), node(0, "Meta", leaf(1, "MaxMsgSize", "700"), node(1, "MetInf", leaf(1, "Size", "5"), holder(0, "Data", "aa")))),
		node(0, "SyncBody", leaf(0, "Final", ""))))
	// Names that no page has are names as others are.
	for page := range spaces {
		for _, name := range vocab.Each(page) {
			reads(t, "a name of a page", "<"+name+"/>", leaf(0, name, ""))
		}
	}
}

// 16.2: what is handed out is nobody else's: two readings of one document share nothing.
func TestReadKept(t *testing.T) {
	s := "<a><b><c/><c/></b><b><c/></b></a>"
	one, _, _ := markup.Read(s)
	want := copyOf(one)
	other, _, _ := markup.Read(s)
	for _, kid := range one.Kids {
		_ = append(kid.Kids, leaf(0, "Spoilt", ""))
		clear(kid.Kids[:cap(kid.Kids)])
	}
	clear(one.Kids[:cap(one.Kids)])
	if !same(other, want) || len(want.Kids) != 2 || len(want.Kids[0].Kids) != 2 {
		t.Errorf("of two readings the second one is %v", other)
	}
	reads(t, "again", s, want)
}
