package capitals_test

import (
	"strings"
	"testing"

	"cardcase/capitals"
	"cardcase/sample"
)

// What the layers lean on: a to z, and nothing else.
func TestOf(t *testing.T) {
	for s, want := range map[string]string{
		"": "", "a": "A", "z": "Z", "A": "A", "Z": "Z", "aBz-9": "ABZ-9", "`a{z": "`A{Z", "@A[Z": "@A[Z",
		// letters of other alphabets, and ones that have capitals from A to Z elsewhere
		"é": "é", "ıſ": "ıſ", "\u212aa": "\u212aA", "ÿß": "ÿß", "a\xffz\x00": "A\xffZ\x00",
	} {
		if got := capitals.Of(s); got != want {
			t.Errorf("Of(%q): %q, not %q", s, got, want)
		}
	}
}

// Each byte, alone and among others.
func TestOfEachByte(t *testing.T) {
	const small, great = "abcdefghijklmnopqrstuvwxyz", "ABCDEFGHIJKLMNOPQRSTUVWXYZ"
	for _, b := range sample.Bytes() {
		want := b
		if n := strings.Index(small, b); n >= 0 {
			want = great[n : n+1]
		}
		for s, wanted := range map[string]string{b: want, "a" + b: "A" + want, b + "\xc3": want + "\xc3", b + b + "b": want + want + "B"} {
			if got := capitals.Of(s); got != wanted {
				t.Errorf("Of(%q): %q, not %q", s, got, wanted)
			}
		}
	}
}
