// Package sample makes texts that the layers' tests are run on; no layer calls it.
package sample

// Texts are all texts of up to most of these bytes, the shorter ones first.
func Texts(letters string, most int) []string {
	all, last := []string{""}, []string{""}
	for range most {
		var next []string
		for _, s := range last {
			for i := range len(letters) {
				next = append(next, s+letters[i:i+1])
			}
		}
		all, last = append(all, next...), next
	}
	return all
}

// Bytes are all bytes, as texts of one.
func Bytes() []string {
	var all []string
	for b := range 256 {
		all = append(all, string([]byte{byte(b)}))
	}
	return all
}

// Bits are a text's bits in writing, the highest of each byte first.
func Bits(s string) string {
	var out []byte
	for i := range len(s) {
		for place := 7; place >= 0; place-- {
			out = append(out, '0'+s[i]>>place&1)
		}
	}
	return string(out)
}
