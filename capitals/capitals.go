// Package capitals reads small letters as capitals, for those layers that do so.
package capitals

// Of is a text with A to Z for a to z.
func Of(s string) string {
	// Byte by byte: the library's own capitals make A to Z of some letters of other alphabets, too.
	out := []byte(s)
	for i, b := range out {
		if b >= 'a' && b <= 'z' {
			out[i] = b - 'a' + 'A'
		}
	}
	return string(out)
}
