package mbint_test

import (
	"math"
	"math/big"
	"math/rand"
	"strconv"
	"strings"
	"testing"

	"cardcase/api"
	"cardcase/mbint"
	"cardcase/sample"
)

// numbers are those around each change of length in bits, and many of each length.
func numbers() []uint32 {
	r := rand.New(rand.NewSource(2))
	l := []uint32{0, 1, 42, 127, 128, 300, 16383, 16384, math.MaxUint32 - 1, math.MaxUint32}
	for shift := range 32 {
		n := uint32(1) << shift
		l = append(l, n-1, n, n+1, -n)
		for range 200 {
			l = append(l, n|r.Uint32()&(n-1))
		}
	}
	return l
}

// numberTexts are texts at whose beginning a number may stand: short ones, and longer ones around the greatest number's bytes.
func numberTexts() []string {
	l := sample.Texts("\x00\x01\x0f\x10\x7f\x80\x81\x8f\x90\xff", 4)
	for _, head := range sample.Texts("\x80\x81\x8f\x90\xff", 2) {
		for _, tail := range sample.Texts("\x00\x7f\x80\xff", 4) {
			l = append(l, head+"\xff\xff"+tail, head+"\x80\x80"+tail)
		}
	}
	for b := range 256 {
		l = append(l, string([]byte{byte(b)}), string([]byte{byte(b), 0xff, 0xff, 0xff, 0x7f}), string([]byte{byte(b), 0x80, 0x80, 0x80, 0x00}))
	}
	return l
}

// behind is a reader of head and s that has taken head.
func behind(head, s string) *mbint.Reader {
	r := mbint.New(head + s)
	r.Bytes(len(head))
	return r
}

// stands holds where a reader is, how much is left and what is wrong against what they must be.
func stands(t *testing.T, what string, r *mbint.Reader, at, left int, want api.Errno) {
	t.Helper()
	if r.At() != at || r.Left() != left {
		t.Errorf("%s: at %d, %d left, not at %d, %d left", what, r.At(), r.Left(), at, left)
	}
	if place, e := r.Err(); place != at || e != want {
		t.Errorf("%s: %v at %d, not %v at %d", what, e, place, want, at)
	}
}

// stuck holds that a reader at which something is wrong reads nothing more, and stays as it is.
func stuck(t *testing.T, what string, r *mbint.Reader) {
	t.Helper()
	at, left := r.At(), r.Left()
	_, e := r.Err()
	for round := range 2 {
		if b := r.Byte(); b != 0 {
			t.Errorf("%s, a byte behind the error, round %d: %d", what, round, b)
		}
		if n := r.Number(); n != 0 {
			t.Errorf("%s, a number behind the error, round %d: %d", what, round, n)
		}
		for _, n := range []int{0, 1, -1, left, left + 1} {
			if s := r.Bytes(n); s != "" {
				t.Errorf("%s, %d bytes behind the error, round %d: %q", what, n, round, s)
			}
		}
		if s := r.Text(); s != "" {
			t.Errorf("%s, a text behind the error, round %d: %q", what, round, s)
		}
		for _, other := range []api.Errno{api.OK, api.ErrName, api.ErrShort, api.ErrField, api.ErrRange} {
			r.Fail(other)
		}
		stands(t, what+", behind the error", r, at, left, e)
	}
}

// 2.1: Write.
func TestWrite(t *testing.T) {
	for n, want := range map[uint32]string{
		0: "\x00", 1: "\x01", 127: "\x7f", 128: "\x81\x00", 129: "\x81\x01", 255: "\x81\x7f", 256: "\x82\x00", 300: "\x82\x2c",
		16383: "\xff\x7f", 16384: "\x81\x80\x00", 2097151: "\xff\xff\x7f", 2097152: "\x81\x80\x80\x00",
		268435455: "\xff\xff\xff\x7f", 268435456: "\x81\x80\x80\x80\x00", 1 << 31: "\x88\x80\x80\x80\x00",
		math.MaxUint32 - 1: "\x8f\xff\xff\xff\x7e", math.MaxUint32: "\x8f\xff\xff\xff\x7f",
	} {
		if got := mbint.Write(n); got != want {
			t.Errorf("Write(%d): %x, not %x", n, got, want)
		}
	}
}

// writeWords is 2.1 said once more: the number's digits of two, in sevens.
func writeWords(n uint32) string {
	bits := strconv.FormatUint(uint64(n), 2)
	bits = strings.Repeat("0", (7-len(bits)%7)%7) + bits
	var out []byte
	for i := 0; i < len(bits); i += 7 {
		mark := "1"
		if i+7 == len(bits) {
			mark = "0"
		}
		b, _ := strconv.ParseUint(mark+bits[i:i+7], 2, 8)
		out = append(out, byte(b))
	}
	return string(out)
}

// 2.1: Write of numbers of every length.
func TestWriteMany(t *testing.T) {
	for _, n := range numbers() {
		if got, want := mbint.Write(n), writeWords(n); got != want {
			t.Errorf("Write(%d): %x, not %x", n, got, want)
		}
	}
	for n := range uint32(40000) {
		if got, want := mbint.Write(n), writeWords(n); got != want {
			t.Errorf("Write(%d): %x, not %x", n, got, want)
		}
	}
}

// 2.1: a new reader is at the beginning, with all bytes left; two of one text don't get in one another's way.
func TestNew(t *testing.T) {
	for _, s := range []string{"", "a", "\x00", "\x80\x80", "abc", strings.Repeat("\xff", 1000)} {
		stands(t, strconv.Quote(s), mbint.New(s), 0, len(s), api.OK)
	}
	a, b := mbint.New("xyz"), mbint.New("xyz")
	if a == b || a.Byte() != 'x' || b.Byte() != 'x' || a.Byte() != 'y' {
		t.Errorf("two readers of one text")
	}
	a.Fail(api.ErrName)
	stands(t, "the one", a, 2, 1, api.ErrName)
	stands(t, "the other one", b, 1, 2, api.OK)
}

// 2.2: Byte.
func TestByte(t *testing.T) {
	r := mbint.New("a\x00\x80\xff")
	for i, want := range []byte{'a', 0, 0x80, 0xff} {
		if b := r.Byte(); b != want {
			t.Errorf("byte %d: %x, not %x", i, b, want)
		}
		stands(t, "behind byte "+strconv.Itoa(i), r, i+1, 3-i, api.OK)
	}
	if b := r.Byte(); b != 0 {
		t.Errorf("a byte behind all: %x", b)
	}
	stands(t, "behind all", r, 4, 0, api.ErrShort)
	stuck(t, "behind all", r)
}

// 2.2: Number takes numbers, and leaves what stands behind them.
func TestNumber(t *testing.T) {
	for s, want := range map[string]uint32{
		"\x00": 0, "\x01": 1, "\x7f": 127, "\x81\x00": 128, "\x82\x2c": 300, "\xff\x7f": 16383, "\x81\x80\x00": 16384,
		"\x81\x80\x01": 16385, "\xff\xff\x7f": 2097151, "\xff\xff\xff\x7f": 268435455, "\x81\x80\x80\x80\x00": 268435456,
		"\x8f\xff\xff\xff\x7e": math.MaxUint32 - 1, "\x8f\xff\xff\xff\x7f": math.MaxUint32, "\x8f\x80\x80\x80\x00": 15 << 28,
	} {
		for _, head := range []string{"", "a", "\x80", "\xff\xff\xff"} {
			for _, tail := range []string{"", "\x00", "\x80", "\xff", "\x7fz"} {
				r := behind(head, s+tail)
				if n := r.Number(); n != want {
					t.Errorf("Number of %x: %d, not %d", s+tail, n, want)
				}
				stands(t, "Number of "+strconv.Quote(s+tail), r, len(head)+len(s), len(tail), api.OK)
			}
		}
	}
}

// 2.2: what is no number is refused, by the error that comes first; the reader stays where the number would begin.
func TestNumberErrors(t *testing.T) {
	for s, want := range map[string]api.Errno{
		// none is left
		"": api.ErrShort, "\x81": api.ErrShort, "\xff": api.ErrShort, "\x81\x80": api.ErrShort, "\xff\xff\xff\xff": api.ErrShort,
		"\x8f\xff\xff\xff": api.ErrShort, "\x8f\xff\xff\xff\xff": api.ErrShort, "\x88\x80\x80\x80\x80": api.ErrShort,
		// a number of more bytes than it needs, whatever is behind, if anything is
		"\x80": api.ErrField, "\x80\x00": api.ErrField, "\x80\x01": api.ErrField, "\x80\x80": api.ErrField, "\x80\x80\x00": api.ErrField,
		"\x80\x81\x00": api.ErrField, "\x80\xff\xff\xff\xff\xff\x7f": api.ErrField, "\x80\x8f\xff\xff\xff\x7f": api.ErrField,
		// above 2^32 - 1, whatever is behind the byte that tells it, if anything is
		"\x90\x80\x80\x80\x00": api.ErrRange, "\x90\x80\x80\x80\x80": api.ErrRange, "\x90\x80\x80\x80": api.ErrShort,
		"\x90\x80\x80\x80\x80\x00": api.ErrRange, "\xff\xff\xff\xff\x7f": api.ErrRange, "\xff\xff\xff\xff\xff": api.ErrRange,
		"\xff\xff\xff\xff\xff\xff\x7f": api.ErrRange, "\x9f\xff\xff\xff\x7f": api.ErrRange, "\x8f\xff\xff\xff\xff\x00": api.ErrRange,
		"\x8f\xff\xff\xff\xff\x80": api.ErrRange, "\x81\x80\x80\x80\x80\x00": api.ErrRange, "\x81\x80\x80\x80\x80\x80": api.ErrRange,
		"\x81\x80\x80\x80\x80": api.ErrShort, "\xc0\x80\x80\x80\x05": api.ErrRange, "\xa0\x80\x80\x80\x7f": api.ErrRange,
	} {
		for _, head := range []string{"", "ab", "\x81\x80"} {
			r := behind(head, s)
			if n := r.Number(); n != 0 {
				t.Errorf("Number of %x: %d beside an error", s, n)
			}
			stands(t, "Number of "+strconv.Quote(s), r, len(head), len(s), want)
			stuck(t, "Number of "+strconv.Quote(s), r)
		}
	}
}

// numberWords is 2.2's Number said once more: what it is, of how many bytes, or what is wrong.
func numberWords(s string) (uint32, int, api.Errno) {
	n := new(big.Int)
	for i := 0; ; i++ {
		if i == len(s) {
			return 0, 0, api.ErrShort
		}
		if i == 0 && s[i] == 0x80 {
			return 0, 0, api.ErrField
		}
		n.Or(n.Lsh(n, 7), big.NewInt(int64(s[i]&0x7f)))
		if n.BitLen() > 32 {
			return 0, 0, api.ErrRange
		}
		if s[i]&0x80 == 0 {
			return uint32(n.Uint64()), i + 1, api.OK
		}
	}
}

// 2.2: Number of many texts, right ones and wrong ones.
func TestNumberMany(t *testing.T) {
	for _, s := range numberTexts() {
		r := mbint.New(s)
		want, size, e := numberWords(s)
		if n := r.Number(); n != want {
			t.Errorf("Number of %x: %d, not %d", s, n, want)
		}
		stands(t, "Number of "+strconv.Quote(s), r, size, len(s)-size, e)
	}
}

// 2.2: Bytes.
func TestBytes(t *testing.T) {
	const text = "ab\x00\xff\x80c"
	for head := range len(text) + 1 {
		for n := range len(text) - head + 1 {
			r := behind(text[:head], text[head:])
			if s := r.Bytes(n); s != text[head:head+n] {
				t.Errorf("Bytes(%d) at %d: %q", n, head, s)
			}
			stands(t, "Bytes", r, head+n, len(text)-head-n, api.OK)
		}
	}
}

// 2.2: Bytes of numbers below 0, and of more than are left.
func TestBytesErrors(t *testing.T) {
	for _, head := range []string{"", "a", "abc"} {
		for _, s := range []string{"", "x", "xyz", "\x00\x00"} {
			for n, want := range map[int]api.Errno{
				-1: api.ErrRange, -2: api.ErrRange, -len(s) - 1: api.ErrRange, -len(head) - 1: api.ErrRange, math.MinInt: api.ErrRange,
				math.MinInt32 + 1: api.ErrRange, len(s) + 1: api.ErrShort, len(s) + 2: api.ErrShort, len(s) + len(head) + 1: api.ErrShort,
				math.MaxInt: api.ErrShort, math.MaxInt - len(head): api.ErrShort, math.MaxInt32 - 1: api.ErrShort,
			} {
				r := behind(head, s)
				if got := r.Bytes(n); got != "" {
					t.Errorf("Bytes(%d) of %q: %q beside an error", n, s, got)
				}
				stands(t, "Bytes("+strconv.Itoa(n)+")", r, len(head), len(s), want)
				stuck(t, "Bytes("+strconv.Itoa(n)+")", r)
			}
		}
	}
}

// 2.2: Text.
func TestText(t *testing.T) {
	for s, want := range map[string]string{
		"\x00": "", "ab\x00": "ab", "ab\x00c": "ab", "\x00\x00": "", "\xff\x80\x00ab": "\xff\x80", "a\x00\x00": "a",
		"\u00e9\x00": "\u00e9", "0\x000\x00": "0",
	} {
		for _, head := range []string{"", "\x00", "x\x00y"} {
			r := behind(head, s)
			if got := r.Text(); got != want {
				t.Errorf("Text of %q: %q, not %q", s, got, want)
			}
			stands(t, "Text of "+strconv.Quote(s), r, len(head)+len(want)+1, len(s)-len(want)-1, api.OK)
		}
	}
}

// 2.2: a text without a nought.
func TestTextErrors(t *testing.T) {
	for _, s := range []string{"", "a", "abc", "0", "\x01\x80\xff", strings.Repeat("a", 1<<16)} {
		for _, head := range []string{"", "\x00", "x\x00y"} {
			r := behind(head, s)
			if got := r.Text(); got != "" {
				t.Errorf("Text of %q: %q beside an error", s, got)
			}
			stands(t, "a text without a nought", r, len(head), len(s), api.ErrShort)
			stuck(t, "a text without a nought", r)
		}
	}
}

// 2.2: Fail, of any error, at any place; of OK; behind an error.
func TestFail(t *testing.T) {
	for _, e := range []api.Errno{api.ErrShort, api.ErrRange, api.ErrKind, api.ErrMore, api.ErrCommand, -1, 1 << 20} {
		for at := range 4 {
			r := mbint.New("abc")
			r.Bytes(at)
			r.Fail(api.OK)
			stands(t, "Fail of OK", r, at, 3-at, api.OK)
			r.Fail(e)
			stands(t, "Fail", r, at, 3-at, e)
			stuck(t, "Fail", r)
		}
	}
	r := mbint.New("abc")
	r.Fail(api.OK)
	if r.Byte() != 'a' || r.Bytes(2) != "bc" {
		t.Errorf("behind Fail of OK nothing is read")
	}
	r.Number()
	r.Fail(api.ErrName)
	stands(t, "Fail behind a number that is short", r, 3, 0, api.ErrShort)
}

// plain is 2.2 said once more: a reader that does one call of a kind, with what that call answers.
type plain struct {
	text  string
	at    int
	wrong api.Errno
}

// move takes size bytes, or none, if something is wrong.
func (p *plain) move(size int, e api.Errno) bool {
	if p.wrong != api.OK {
		return false
	}
	p.wrong = e
	if e == api.OK {
		p.at += size
	}
	return e == api.OK
}

// call is what a reader answers, as one text.
func (p *plain) call(kind, n int) string {
	rest := p.text[p.at:]
	switch kind {
	case 0:
		if len(rest) == 0 {
			p.move(0, api.ErrShort)
		} else if p.move(1, api.OK) {
			return strconv.Itoa(int(rest[0]))
		}
		return "0"
	case 1:
		v, size, e := numberWords(rest)
		if p.move(size, e) {
			return strconv.FormatUint(uint64(v), 10)
		}
		return "0"
	case 2:
		if n < 0 {
			p.move(0, api.ErrRange)
		} else if n > len(rest) {
			p.move(0, api.ErrShort)
		} else if p.move(n, api.OK) {
			return strconv.Quote(rest[:n])
		}
		return `""`
	case 3:
		end := strings.IndexByte(rest, 0)
		if end < 0 {
			p.move(0, api.ErrShort)
		} else if p.move(end+1, api.OK) {
			return strconv.Quote(rest[:end])
		}
		return `""`
	}
	p.move(0, api.Errno(n))
	return ""
}

// call does the same with a reader.
func call(r *mbint.Reader, kind, n int) string {
	switch kind {
	case 0:
		return strconv.Itoa(int(r.Byte()))
	case 1:
		return strconv.FormatUint(uint64(r.Number()), 10)
	case 2:
		return strconv.Quote(r.Bytes(n))
	case 3:
		return strconv.Quote(r.Text())
	}
	r.Fail(api.Errno(n))
	return ""
}

// 2.2: many calls of every kind, one behind the other.
func TestCallsInTurn(t *testing.T) {
	const letters = "\x00\x00\x00\x01\x05\x7f\x80\x81\x82\xffab"
	random := rand.New(rand.NewSource(3))
	for range 20000 {
		b := make([]byte, random.Intn(40))
		for i := range b {
			b[i] = letters[random.Intn(len(letters))]
		}
		p, r := &plain{text: string(b)}, mbint.New(string(b))
		told := strconv.Quote(string(b))
		for range 12 {
			kind, n := random.Intn(4), random.Intn(8)-random.Intn(20)/19
			if random.Intn(30) == 0 {
				kind = 4
				n = random.Intn(3)
			}
			told += ", " + strconv.Itoa(kind) + "(" + strconv.Itoa(n) + ")"
			if got, want := call(r, kind, n), p.call(kind, n); got != want {
				t.Fatalf("%s: %s, not %s", told, got, want)
			}
			stands(t, told, r, p.at, len(p.text)-p.at, p.wrong)
			if t.Failed() {
				return
			}
		}
	}
}

// 2.3: Number is what Write wrote, wherever it stands.
func TestNumberOfWrite(t *testing.T) {
	all := ""
	for _, n := range numbers() {
		s := mbint.Write(n)
		all += s
		r := mbint.New(s)
		if got := r.Number(); got != n {
			t.Errorf("Number of Write(%d): %d", n, got)
		}
		stands(t, "Number of Write", r, len(s), 0, api.OK)
	}
	r := mbint.New(all)
	for _, n := range numbers() {
		if got := r.Number(); got != n {
			t.Fatalf("Number of Write(%d), in a row: %d", n, got)
		}
	}
	stands(t, "numbers in a row", r, len(all), 0, api.OK)
}

// 2.3: Number takes nothing that Write would not write.
func TestNumberTakesWriteAlone(t *testing.T) {
	taken := 0
	for _, s := range numberTexts() {
		r := mbint.New(s)
		n := r.Number()
		if _, e := r.Err(); e != api.OK {
			continue
		}
		taken++
		if mbint.Write(n) != s[:r.At()] {
			t.Errorf("Number of %x: %d, of %d bytes, which is written %x", s, n, r.At(), mbint.Write(n))
		}
	}
	if taken == 0 {
		t.Errorf("no text was taken")
	}
}

// P1: calls end, and none panics, at long texts, too, and at readers that nobody made by New.
func TestCallsEnd(t *testing.T) {
	for _, c := range []string{"\x00", "\x7f", "\x80", "\x81", "\xff", "a"} {
		s := strings.Repeat(c, 1<<20)
		for kind := range 4 {
			r, p := mbint.New(s), &plain{text: s}
			if got, want := call(r, kind, 1<<20), p.call(kind, 1<<20); got != want {
				t.Errorf("call %d of a long text is not as it must be", kind)
			}
			stands(t, "a long text", r, p.at, len(s)-p.at, p.wrong)
		}
	}
	var empty mbint.Reader
	for _, r := range []*mbint.Reader{nil, &empty} {
		stands(t, "a reader that New did not make", r, 0, 0, api.OK)
		for kind := range 5 {
			if got := call(r, kind, 1); got != "" && got != "0" && got != `""` {
				t.Errorf("call %d of a reader that New did not make: %s", kind, got)
			}
		}
	}
	stands(t, "an empty reader behind a byte", &empty, 0, 0, api.ErrShort)
}
