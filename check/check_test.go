package check_test

import (
	"math/rand"
	"strings"
	"testing"

	"cardcase/api"
	"cardcase/check"
	"cardcase/sample"
)

// division is 3.1's sum said another way: what is left of the text's bits, with sixteen noughts behind them and the first sixteen of all turned, behind a division by the polynomial.
func division(s string) uint16 {
	bits := make([]bool, 8*len(s)+16)
	for i := range 8 * len(s) {
		bits[i] = s[i/8]<<(i%8)&0x80 != 0
	}
	for i := range 16 {
		bits[i] = !bits[i]
	}
	for i := range 8 * len(s) {
		if bits[i] {
			for _, power := range []int{16, 12, 5, 0} {
				bits[i+16-power] = !bits[i+16-power]
			}
		}
	}
	left := uint16(0)
	for _, bit := range bits[8*len(s):] {
		left *= 2
		if bit {
			left++
		}
	}
	return left
}

// texts are all of one and of two bytes, short ones of bytes at the edges, longer ones of any.
func texts() []string {
	l := append(sample.Texts("\x00\x01\x7f\x80\xff", 5), sample.Mixed(3000, 80, sample.Bytes())...)
	for n := range 1 << 16 {
		l = append(l, string([]byte{byte(n >> 8), byte(n)}))
	}
	for n := range 1 << 8 {
		l = append(l, string([]byte{byte(n)}), strings.Repeat(string([]byte{byte(n)}), n))
	}
	return l
}

// pair is a sum's two bytes, the higher one first.
func pair(sum uint16) string { return string([]byte{byte(sum / 256), byte(sum % 256)}) }

// refused: Open answers nothing and false.
func refused(t *testing.T, s string) {
	t.Helper()
	if text, ok := check.Open(s); text != "" || ok {
		t.Errorf("Open(%q): %q and %v, not nothing and false", s, text, ok)
	}
}

// opened: Open answers a text and true.
func opened(t *testing.T, s, want string) {
	t.Helper()
	if text, ok := check.Open(s); text != want || !ok {
		t.Errorf("Open(%q): %q and %v, not %q and true", s, text, ok, want)
	}
}

// sums are texts whose sums are known.
func sums() map[string]uint16 {
	return map[string]uint16{
		"": 0xffff, "\x00": 0xe1f0, "\xff": 0xff00, "a": 0x9d77, "A": 0xb915, "\x00\x00": 0x1d0f, "\xff\xff": 0x0000,
		"abc": 0x514a, "123456789": 0x29b1, strings.Repeat("A", 256): 0xea0b,
	}
}

// 3.1: Of texts whose sums are known.
func TestOf(t *testing.T) {
	for s, want := range sums() {
		if got := check.Of(s); got != want {
			t.Errorf("Of(%q): %04x, not %04x", s, got, want)
		}
	}
}

// 3.1: Of many texts.
func TestOfMany(t *testing.T) {
	for _, s := range texts() {
		if got, want := check.Of(s), division(s); got != want {
			t.Errorf("Of(%q): %04x, not %04x", s, got, want)
		}
	}
}

// 3.1: Seal of texts whose sums are known.
func TestSeal(t *testing.T) {
	for s, want := range map[string]string{
		"": "\xff\xff", "\x00": "\x00\xe1\xf0", "\xff": "\xff\xff\x00", "a": "a\x9d\x77", "\xff\xff": "\xff\xff\x00\x00",
		"123456789": "123456789\x29\xb1",
	} {
		if got := check.Seal(s); got != want {
			t.Errorf("Seal(%q): %q, not %q", s, got, want)
		}
	}
}

// 3.1: Seal puts the sum behind the text, its higher byte first; Open takes it off again.
func TestSealMany(t *testing.T) {
	for _, s := range texts() {
		sealed := check.Seal(s)
		if want := s + pair(division(s)); sealed != want {
			t.Errorf("Seal(%q): %q, not %q", s, sealed, want)
		}
		opened(t, sealed, s)
	}
}

// 3.1: a sealed text may be sealed again.
func TestSealTwice(t *testing.T) {
	for _, s := range append(sample.Texts("\x00a\x80\xff", 3), sample.Mixed(300, 60, sample.Bytes())...) {
		once := check.Seal(s)
		twice := check.Seal(once)
		if len(twice) != len(s)+4 || twice[:len(once)] != once {
			t.Errorf("Seal of %q: %q", once, twice)
		}
		opened(t, twice, once)
	}
}

// 3.1: what is shorter than a sum is refused; of two bytes just the sum of nothing is opened.
func TestOpenShort(t *testing.T) {
	refused(t, "")
	for n := range 1 << 8 {
		refused(t, string([]byte{byte(n)}))
	}
	for n := range 1 << 16 {
		if s := pair(uint16(n)); s == "\xff\xff" {
			opened(t, s, "")
		} else {
			refused(t, s)
		}
	}
}

// 3.1: of all sums that may stand behind a text Open takes its own alone.
func TestOpenAllSums(t *testing.T) {
	for _, s := range []string{"a", "\x00", "\x80", "\xff", "ab", "\x00\x00", "\xff\xff", "\xff\xff\xff", "123456789"} {
		own := division(s)
		for n := range 1 << 16 {
			if uint16(n) == own {
				opened(t, s+pair(own), s)
			} else {
				refused(t, s+pair(uint16(n)))
			}
		}
	}
}

// 3.1: the sum in the other order is none, unless it is the same so.
func TestOpenOtherOrder(t *testing.T) {
	same, other := 0, 0
	for _, s := range texts() {
		sum := division(s)
		turned := pair(sum>>8 | sum<<8)
		if turned == pair(sum) {
			same++
			opened(t, s+turned, s)
			continue
		}
		other++
		refused(t, s+turned)
	}
	if same == 0 || other == 0 {
		t.Errorf("%d sums are the same in the other order, %d are not", same, other)
	}
}

// 3.1: wrong inputs: texts without a sum, and sums that are cut, moved, longer, of another text, or said otherwise.
func TestOpenWrong(t *testing.T) {
	for _, s := range []string{
		// no sum
		"ab", "abc", "123456789", "\x00\x00", "\x80\x80\x80", "a\x00\x00", "a\xff\xff", "\xff\xff\xff\xff",
		// a byte of it, or more than it
		"a\x9d", "a\x77", "\x9d\x77", "123456789\x29", "a\x9d\x77\xff", "a\x9d\x77\x9d\x77", "a\x9d\x77a", "123456789\x29\xb1\x0a",
		// ahead of the text, or with something between
		"\x9d\x77a", "\x29\xb1123456789", "\x9da\x77", "a\x00\x9d\x77", "123456789\x00\x29\xb1",
		// of another text
		"A\x9d\x77", "aa\x9d\x77", "\x00a\x9d\x77", "12345678\x29\xb1", "023456789\x29\xb1", "213456789\x29\xb1",
		// another number: one more, one less, turned, of the other order
		"a\x9d\x78", "a\x9d\x76", "a\x9e\x77", "a\x62\x88", "a\x77\x9d", "123456789\xb1\x29", "123456789\xd6\x4e",
		// the sums of registers that begin with noughts, that begin as if two noughts stood ahead, that take each byte's lowest bit first
		"123456789\x31\xc3", "123456789\xe5\xcc", "123456789\x6f\x91", "123456789\x21\x89", "123456789\x90\x6e",
		// in digits
		"a9d77", "a9D77", "a40311", "12345678929B1", "12345678929b1",
	} {
		refused(t, s)
	}
}

// 3.1: just the last two bytes are asked: by its sum's higher byte, and its lower one with a nought behind it, a text is sealed, too.
func TestOpenLastTwoBytes(t *testing.T) {
	for s, sum := range sums() {
		opened(t, s+pair(sum)+"\x00", s+pair(sum)[:1])
	}
}

// turned is a text in which bits are turned that begin at a place, counted in bits: pattern's highest bit stands for the first one.
func turned(s string, place int, pattern uint16) string {
	b := []byte(s)
	for i := range 16 {
		if pattern<<i&0x8000 != 0 {
			b[(place+i)/8] ^= 0x80 >> ((place + i) % 8)
		}
	}
	return string(b)
}

// reach is how many bits there are from the first to the last one that a pattern turns.
func reach(pattern uint16) int {
	n := 16
	for pattern&1 == 0 {
		pattern >>= 1
		n--
	}
	return n
}

// seen: Open refuses a sealed text in which a pattern is turned at a place, if it ends within the text.
func seen(t *testing.T, sealed string, place int, pattern uint16) {
	t.Helper()
	if place >= 0 && place+reach(pattern) <= 8*len(sealed) {
		refused(t, turned(sealed, place, pattern))
	}
}

// 3.2: whatever is turned within sixteen bits is seen, at every place: in the text, in the sum, over both.
func TestTurnedAll(t *testing.T) {
	for _, s := range []string{"", "a", "\x00", "\xff\x80", "ab\x00"} {
		sealed := check.Seal(s)
		for place := range 8 * len(sealed) {
			for pattern := 0x8000; pattern < 1<<16; pattern++ {
				seen(t, sealed, place, uint16(pattern))
			}
		}
	}
}

// 3.2: one to sixteen bits in a row, all of them turned, at every place of longer texts.
func TestTurnedRows(t *testing.T) {
	for _, s := range append(sample.Mixed(100, 70, sample.Bytes()), strings.Repeat("\x00", 64), strings.Repeat("\xff", 64), "123456789") {
		sealed := check.Seal(s)
		for place := range 8 * len(sealed) {
			for size := 1; size <= 16; size++ {
				seen(t, sealed, place, uint16(0xffff<<(16-size)))
			}
		}
	}
}

// 3.2: what is turned at the first place, at the last one, and around the text's end, of texts of many lengths.
func TestTurnedEdges(t *testing.T) {
	r := rand.New(rand.NewSource(5))
	for _, s := range append(sample.Mixed(300, 300, sample.Bytes()), strings.Repeat("z", api.MaxPlate), strings.Repeat("\x80", api.MaxVal)) {
		sealed := check.Seal(s)
		for range 30 {
			pattern := uint16(r.Intn(1<<16)) | 0x8000
			seen(t, sealed, 0, pattern)
			seen(t, sealed, 8*len(sealed)-reach(pattern), pattern)
			for step := range 17 {
				seen(t, sealed, 8*len(s)-step, pattern)
			}
		}
	}
}

// P1: calls end, and none panics, at long texts, too; what they are handed stays as it is.
func TestCallsEnd(t *testing.T) {
	for _, c := range []string{"\x00", "\x80", "\xff", "a"} {
		s := strings.Repeat(c, 1<<20)
		sealed := check.Seal(s)
		if text, ok := check.Open(sealed); text != s || !ok || sealed != s+pair(check.Of(s)) {
			t.Errorf("a text of many %q is not opened", c)
		}
		if text, ok := check.Open(s); text != "" || ok {
			t.Errorf("a text of many %q that is not sealed is opened", c)
		}
	}
}
