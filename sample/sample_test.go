package sample_test

import (
	"slices"
	"testing"

	"cardcase/sample"
)

// What the layers' tests lean on: each text is there, once.
func TestTexts(t *testing.T) {
	if got := sample.Texts("a\xff", 2); !slices.Equal(got, []string{"", "a", "\xff", "aa", "a\xff", "\xffa", "\xff\xff"}) {
		t.Errorf("two bytes, two at most: %q", got)
	}
	if got := sample.Texts("abc", 4); len(got) != 1+3+9+27+81 {
		t.Errorf("three bytes, four at most: %d texts", len(got))
	}
	if got := sample.Texts("abc", 0); !slices.Equal(got, []string{""}) {
		t.Errorf("none at most: %q", got)
	}
}
