package figure_test

import (
	"math"
	"math/rand"
	"slices"
	"strconv"
	"strings"
	"testing"

	"cardcase/api"
	"cardcase/figure"
	"cardcase/sample"
)

// numbers are ints of every length, both signs, and those around each change of length.
func numbers() []int {
	l := []int{0, math.MaxInt, math.MinInt, math.MaxInt - 1, math.MinInt + 1, api.MaxCount}
	for unit := 1; ; unit *= 10 {
		for digit := 1; digit <= 9; digit++ {
			if digit > math.MaxInt/unit {
				break
			}
			n := digit * unit
			l = append(l, n-1, n, -n, 1-n, n+unit/3, -n-unit/3)
		}
		if unit > math.MaxInt/10 {
			return l
		}
	}
}

// noise is texts that are the same at each run: mostly of bytes that letters has, sometimes of any.
func noise(count int, letters string) []string {
	r := rand.New(rand.NewSource(1))
	l := make([]string, count)
	for i := range l {
		b := make([]byte, r.Intn(14))
		for j := range b {
			b[j] = letters[r.Intn(len(letters))]
			if r.Intn(12) == 0 {
				b[j] = byte(r.Intn(256))
			}
		}
		l[i] = string(b)
	}
	return l
}

// 1.1: Text.
func TestText(t *testing.T) {
	for n, want := range map[int]string{
		0: "0", 1: "1", 9: "9", 10: "10", 907: "907", 1000: "1000", 268435456: "268435456",
		-1: "-1", -10: "-10", -12: "-12", -907: "-907",
	} {
		if got := figure.Text(n); got != want {
			t.Errorf("Text(%d): %q, not %q", n, got, want)
		}
	}
	for _, n := range numbers() {
		if got, want := figure.Text(n), strconv.Itoa(n); got != want {
			t.Errorf("Text(%d): %q, not %q", n, got, want)
		}
	}
}

// 1.1: the least int, whose size no int has.
func TestTextLeastInt(t *testing.T) {
	want := "-9223372036854775808"
	if strconv.IntSize == 32 {
		want = "-2147483648"
	}
	if got := figure.Text(math.MinInt); got != want {
		t.Errorf("Text of the least int: %q, not %q", got, want)
	}
}

// 1.1: counts are read.
func TestReadCounts(t *testing.T) {
	for s, want := range map[string]int{
		"0": 0, "1": 1, "9": 9, "10": 10, "100": 100, "907": 907, "1002003": 1002003,
		"99999999": 99999999, "199999999": 199999999, "268435399": 268435399,
		"268435455": 268435455, "268435456": 268435456,
	} {
		if got, e := figure.Read(s); got != want || e != api.OK {
			t.Errorf("Read(%q): %d and %v", s, got, e)
		}
	}
}

// 1.1: what is no count is refused, by the error that comes first; no number stands beside it.
func TestReadErrors(t *testing.T) {
	far := strings.Repeat("9", 60)
	for s, want := range map[string]api.Errno{
		"": api.ErrShort,
		// bytes that are no digits: those next to the digits, too
		"a": api.ErrField, "/": api.ErrField, ":": api.ErrField, "-": api.ErrField, "-1": api.ErrField,
		"+1": api.ErrField, " 1": api.ErrField, "1 ": api.ErrField, "1a": api.ErrField, "1/": api.ErrField,
		"1:": api.ErrField, "1_0": api.ErrField, "1.0": api.ErrField, "0x1": api.ErrField, "A": api.ErrField,
		"\x00": api.ErrField, "1\x00": api.ErrField, "\xb1": api.ErrField, "\xff": api.ErrField,
		"\u0661": api.ErrField, "\uff11": api.ErrField, "1\n": api.ErrField,
		// digits behind such a byte change nothing
		"12a9": api.ErrField, "12a" + far: api.ErrField, "a" + far: api.ErrField, "26843545a7": api.ErrField,
		"268435456a": api.ErrField, "268435456:9": api.ErrField, "-" + far: api.ErrField,
		// numbers above 2^28; what stands behind is not looked at any more
		"268435457": api.ErrRange, "268435460": api.ErrRange, "268435466": api.ErrRange, "268435500": api.ErrRange,
		"300000000": api.ErrRange, "999999999": api.ErrRange, "2684354560": api.ErrRange, far: api.ErrRange,
		"268435457a": api.ErrRange, "2684354560a": api.ErrRange, far + "a": api.ErrRange, "999999999-": api.ErrRange,
		// numbers that would go round in 32 or in 64 bits
		"2147483648": api.ErrRange, "4294967296": api.ErrRange, "4294967297": api.ErrRange,
		"9223372036854775808": api.ErrRange, "18446744073709551616": api.ErrRange, "18446744073709551617": api.ErrRange,
		// noughts ahead come ahead of all but ErrShort
		"00": api.ErrField, "01": api.ErrField, "012": api.ErrField, "000": api.ErrField, "0a": api.ErrField,
		"0268435456": api.ErrField, "0268435457": api.ErrField, "0" + far: api.ErrField, "0" + far + "a": api.ErrField,
		"00" + far: api.ErrField,
	} {
		if n, e := figure.Read(s); n != 0 || e != want {
			t.Errorf("Read(%q): %d and %v, not %v", s, n, e, want)
		}
	}
}

// readWords is 1.1 said once more, of a text byte by byte.
func readWords(s string) (int, api.Errno) {
	if s == "" {
		return 0, api.ErrShort
	}
	digits := 0
	for digits < len(s) && strings.IndexByte("0123456789", s[digits]) >= 0 {
		digits++
	}
	if s[0] == '0' && digits > 1 {
		return 0, api.ErrField
	}
	for i := range digits {
		if n, err := strconv.ParseUint(s[:i+1], 10, 64); err != nil || n > api.MaxCount {
			return 0, api.ErrRange
		}
	}
	if digits < len(s) {
		return 0, api.ErrField
	}
	n, _ := strconv.Atoi(s)
	return n, api.OK
}

// 1.1: Read of many texts, right ones and wrong ones.
func TestReadMany(t *testing.T) {
	for _, s := range append(sample.Texts("0129a-", 4), noise(20000, "0123456789")...) {
		n, e := figure.Read(s)
		if wantN, wantE := readWords(s); n != wantN || e != wantE {
			t.Errorf("Read(%q): %d and %v, not %d and %v", s, n, e, wantN, wantE)
		}
	}
}

// 1.1: Read of each number around the greatest count.
func TestReadAroundMaxCount(t *testing.T) {
	for n := api.MaxCount - 2000; n <= api.MaxCount+2000; n++ {
		got, e := figure.Read(strconv.Itoa(n))
		if n <= api.MaxCount && (got != n || e != api.OK) || n > api.MaxCount && (got != 0 || e != api.ErrRange) {
			t.Errorf("Read(%d): %d and %v", n, got, e)
		}
	}
}

// 1.1: Digits tells the bytes of Text, as often as it is gone through.
func TestDigits(t *testing.T) {
	for _, n := range numbers() {
		digits := figure.Digits(n)
		for range 3 {
			if got := string(slices.Collect(digits)); got != strconv.Itoa(n) {
				t.Errorf("Digits(%d): %q", n, got)
			}
		}
	}
}

// 1.1: Digits that are left early tell nothing more, and tell all again when they are gone through again.
func TestDigitsLeftEarly(t *testing.T) {
	for _, n := range []int{0, 7, -7, 10, 1234, -1234, math.MaxInt, math.MinInt} {
		digits, all := figure.Digits(n), strconv.Itoa(n)
		for stop := 1; stop <= len(all); stop++ {
			var got []byte
			digits(func(b byte) bool {
				got = append(got, b)
				return len(got) < stop
			})
			if string(got) != all[:stop] {
				t.Errorf("Digits(%d), left at %d: %q", n, stop, got)
			}
			if again := string(slices.Collect(digits)); again != all {
				t.Errorf("Digits(%d), behind a break at %d: %q", n, stop, again)
			}
		}
	}
}

// 1.1: Digits gone through within themselves don't get in one another's way.
func TestDigitsWithinThemselves(t *testing.T) {
	var got []byte
	digits := figure.Digits(-42)
	for a := range digits {
		for b := range digits {
			got = append(got, a, b)
		}
	}
	if string(got) != "---4-24-44422-2422" {
		t.Errorf("Digits within themselves: %q", got)
	}
}

// 1.2: Hex.
func TestHex(t *testing.T) {
	for s, want := range map[string]string{
		"": "", "a": "61", "a\x00": "6100", "\x00": "00", "\x0f\xf0": "0FF0", "\xff": "FF",
		"\x01\x23\x45\x67\x89\xab\xcd\xef": "0123456789ABCDEF", "\u00e9": "C3A9",
	} {
		if got := figure.Hex(s); got != want {
			t.Errorf("Hex(%q): %q, not %q", s, got, want)
		}
	}
	for b := range 256 {
		want := strings.ToUpper(strconv.FormatInt(int64(b)+256, 16)[1:])
		if got := figure.Hex(string([]byte{byte(b)})); got != want {
			t.Errorf("Hex of the byte %d: %q, not %q", b, got, want)
		}
	}
}

// 1.2: Unhex.
func TestUnhex(t *testing.T) {
	for s, want := range map[string]string{
		"": "", "61": "a", "6100": "a\x00", "00": "\x00", "0FF0": "\x0f\xf0", "FF": "\xff",
		"0123456789ABCDEF": "\x01\x23\x45\x67\x89\xab\xcd\xef",
	} {
		if got, e := figure.Unhex(s); got != want || e != api.OK {
			t.Errorf("Unhex(%q): %q and %v", s, got, e)
		}
	}
}

// 1.2: what is not just pairs of digits is refused; no bytes stand beside the error.
func TestUnhexErrors(t *testing.T) {
	for s, want := range map[string]api.Errno{
		// an odd number of digits
		"6": api.ErrShort, "F": api.ErrShort, "610": api.ErrShort, "0123456789ABCDE": api.ErrShort,
		// small letters, and what stands next to the digits
		"a0": api.ErrField, "0a": api.ErrField, "6f": api.ErrField, "ff": api.ErrField, "G0": api.ErrField,
		"0G": api.ErrField, "0g": api.ErrField, "/0": api.ErrField, "0/": api.ErrField, ":0": api.ErrField,
		"0:": api.ErrField, "@0": api.ErrField, "0@": api.ErrField, "0`": api.ErrField, " 0": api.ErrField,
		"0x": api.ErrField, "\x00\x00": api.ErrField, "0\xb0": api.ErrField, "61 62": api.ErrField, "6161\n": api.ErrField,
		// of an odd number of bytes one that is no digit comes first, wherever it stands
		"g": api.ErrField, "a": api.ErrField, "6g6": api.ErrField, "66g": api.ErrField, "g66": api.ErrField,
		"610062a": api.ErrField, "6a1": api.ErrField,
	} {
		if got, e := figure.Unhex(s); got != "" || e != want {
			t.Errorf("Unhex(%q): %q and %v, not %v", s, got, e, want)
		}
	}
}

// unhexWords is 1.2 said once more.
func unhexWords(s string) (string, api.Errno) {
	const digits = "0123456789ABCDEF"
	if strings.Trim(s, digits) != "" {
		return "", api.ErrField
	}
	if len(s)%2 == 1 {
		return "", api.ErrShort
	}
	var out []byte
	for i := 0; i < len(s); i += 2 {
		out = append(out, byte(16*strings.IndexByte(digits, s[i])+strings.IndexByte(digits, s[i+1])))
	}
	return string(out), api.OK
}

// 1.2: Unhex of many texts, right ones and wrong ones; of all of two bytes.
func TestUnhexMany(t *testing.T) {
	texts := noise(20000, "0123456789ABCDEF")
	for n := range 1 << 16 {
		texts = append(texts, string([]byte{byte(n >> 8), byte(n)}))
	}
	for n := range 256 {
		texts = append(texts, string([]byte{byte(n)}), string([]byte{'0', '0', byte(n)}))
	}
	for _, s := range texts {
		got, e := figure.Unhex(s)
		if want, wantE := unhexWords(s); got != want || e != wantE {
			t.Errorf("Unhex(%q): %q and %v, not %q and %v", s, got, e, want, wantE)
		}
	}
}

// within holds 1.3 against rows of n, least, most and what comes of them.
func within[T int | int64 | uint32](t *testing.T, rows [][4]T) {
	t.Helper()
	for _, r := range rows {
		if got := figure.Within(r[0], r[1], r[2]); got != r[3] {
			t.Errorf("Within(%d, %d, %d) of %T: %d, not %d", r[0], r[1], r[2], got, got, r[3])
		}
	}
}

// 1.3: Within, of each of the three types; also where least is above most.
func TestWithin(t *testing.T) {
	within(t, [][4]int{
		{5, 7, 9, 7}, {6, 7, 9, 7}, {7, 7, 9, 7}, {8, 7, 9, 8}, {9, 7, 9, 9}, {10, 7, 9, 9}, {7, 7, 7, 7}, {8, 7, 7, 7},
		{5, 9, 7, 9}, {8, 9, 7, 9}, {9, 9, 7, 7}, {10, 9, 7, 7}, {-3, -2, 2, -2}, {-1, -2, 2, -1}, {3, -2, 2, 2},
		{math.MinInt, math.MinInt, math.MaxInt, math.MinInt}, {math.MaxInt, math.MinInt, math.MaxInt, math.MaxInt},
		{math.MinInt, -1, 1, -1}, {math.MaxInt, -1, 1, 1}, {0, math.MaxInt, math.MinInt, math.MaxInt},
	})
	within(t, [][4]int64{
		{5, 7, 9, 7}, {7, 7, 9, 7}, {8, 7, 9, 8}, {9, 7, 9, 9}, {10, 7, 9, 9}, {8, 9, 7, 9}, {10, 9, 7, 7}, {-9, -8, -7, -8},
		{math.MinInt64, 0, 1, 0}, {math.MaxInt64, 0, 1, 1}, {1 << 40, 1 << 33, 1 << 35, 1 << 35}, {1, 1 << 33, 1 << 35, 1 << 33},
		{math.MinInt64, math.MinInt64, math.MaxInt64, math.MinInt64}, {0, math.MinInt64, math.MaxInt64, 0},
	})
	within(t, [][4]uint32{
		{5, 7, 9, 7}, {7, 7, 9, 7}, {8, 7, 9, 8}, {9, 7, 9, 9}, {10, 7, 9, 9}, {8, 9, 7, 9}, {10, 9, 7, 7}, {0, 0, 0, 0},
		{math.MaxUint32, 7, 9, 9}, {1 << 31, 7, math.MaxUint32, 1 << 31}, {0, 1 << 31, math.MaxUint32, 1 << 31},
	})
}

// 1.3: Within of all small numbers.
func TestWithinSmall(t *testing.T) {
	for n := -3; n <= 3; n++ {
		for least := -3; least <= 3; least++ {
			for most := -3; most <= 3; most++ {
				want := n
				if n < least {
					want = least
				} else if n > most {
					want = most
				}
				within(t, [][4]int{{n, least, most, want}})
				within(t, [][4]int64{{int64(n), int64(least), int64(most), int64(want)}})
			}
		}
	}
}

// 1.4: Read is of counts what Text wrote; of numbers that are no counts it tells none.
func TestReadOfText(t *testing.T) {
	l := numbers()
	for n := 0; n <= api.MaxCount; n += 1 + n/97 {
		l = append(l, n)
	}
	for _, n := range l {
		got, e := figure.Read(figure.Text(n))
		switch {
		case n >= 0 && n <= api.MaxCount:
			if got != n || e != api.OK {
				t.Errorf("Read(Text(%d)): %d and %v", n, got, e)
			}
		case got != 0 || e == api.OK:
			t.Errorf("Read(Text(%d)), which is no count: %d and %v", n, got, e)
		}
	}
}

// 1.4: Read takes nothing that Text would not write.
func TestReadTakesTextAlone(t *testing.T) {
	for _, s := range append(sample.Texts("0129-+ a", 4), noise(20000, "0123456789")...) {
		if n, e := figure.Read(s); e == api.OK && figure.Text(n) != s {
			t.Errorf("Read(%q): %d, which is written %q", s, n, figure.Text(n))
		}
	}
}

// 1.4: Unhex of Hex is the text.
func TestUnhexOfHex(t *testing.T) {
	var all []byte
	for b := range 256 {
		all = append(all, byte(b))
	}
	for _, s := range append(noise(5000, "\x00\x01\x0f\x10\x7f\x80\xf0\xff aF"), "", string(all), strings.Repeat(string(all), 100)) {
		if got, e := figure.Unhex(figure.Hex(s)); got != s || e != api.OK {
			t.Errorf("Unhex(Hex(%q)): %q and %v", s, got, e)
		}
	}
}

// P1: calls end, and none panics, at long texts and at any bytes, too; what is asked twice is answered the same.
func TestCallsEnd(t *testing.T) {
	long := []string{
		strings.Repeat("0", 1<<20), strings.Repeat("9", 1<<20), strings.Repeat("F", 1<<20), strings.Repeat("F", 1<<20+1),
		strings.Repeat("\xff", 1<<20), strings.Repeat("1", 1<<20) + "g",
	}
	for _, s := range append(long, noise(2000, "0a\x00\xff")...) {
		n, e := figure.Read(s)
		if n2, e2 := figure.Read(s); n != n2 || e != e2 || e != api.OK && n != 0 {
			t.Errorf("Read: %d and %v, then %d and %v", n, e, n2, e2)
		}
		b, e := figure.Unhex(s)
		if b2, e2 := figure.Unhex(s); b != b2 || e != e2 || e != api.OK && b != "" {
			t.Errorf("Unhex: %q and %v, then %q and %v", b, e, b2, e2)
		}
		if h := figure.Hex(s); h != figure.Hex(s) || len(h) != 2*len(s) {
			t.Errorf("Hex: %d digits of %d bytes", len(h), len(s))
		}
	}
}
