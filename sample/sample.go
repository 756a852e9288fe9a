// Package sample makes texts, cards, contacts and elements that the layers' tests are run on; no layer calls it.
package sample

// Texts are all texts of up to most of these bytes, the shorter ones first.
func Texts(letters string, most int) []string {
	all, last := []string{""}, []string{""}
	for range most {
		var next []string
		for _, s := range last {
			for i := range len(letters) {
				next = append(next, s+letters[i:i+1])
			}
		}
		all, last = append(all, next...), next
	}
	return all
}

// Bytes are all bytes, as texts of one.
func Bytes() []string {
	var all []string
	for b := range 256 {
		all = append(all, string([]byte{byte(b)}))
	}
	return all
}

// Mixed are so many texts, each of up to most of these pieces in a row; each call makes the same ones.
func Mixed(count, most int, pieces []string) []string {
	// The order needn't be hard to tell: it must only lead to as many texts of all kinds.
	state := uint64(1)
	below := func(end int) int {
		state = state*6364136223846793005 + 1442695040888963407
		return int((state >> 33) % uint64(end))
	}
	l := make([]string, count)
	for i := range l {
		var text []byte
		for range below(most + 1) {
			text = append(text, pieces[below(len(pieces))]...)
		}
		l[i] = string(text)
	}
	return l
}

// Bits are a text's bits in writing, the highest of each byte first.
func Bits(s string) string {
	var out []byte
	for i := range len(s) {
		for place := 7; place >= 0; place-- {
			out = append(out, '0'+s[i]>>place&1)
		}
	}
	return string(out)
}
