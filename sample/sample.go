// Package sample makes texts that the layers' tests are run on; no layer calls it.
package sample

// Texts are all texts of up to most of these bytes, the shorter ones first.
func Texts(letters string, most int) []string {
	all, last := []string{""}, []string{""}
	for range most {
		var next []string
		for _, s := range last {
			for i := range len(letters) {
				next = append(next, s+letters[i:i+1])
			}
		}
		all, last = append(all, next...), next
	}
	return all
}
