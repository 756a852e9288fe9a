// Package figure is layer 1: numbers as texts. See shared/doc/01-figure.md.
package figure

import "cardcase/api"

const hexDigits = "0123456789ABCDEF"

// Text is a number's digits.
func Text(n int) string {
	var out []byte
	for b := range Digits(n) {
		out = append(out, b)
	}
	return string(out)
}

// Digits are a number's digits, one by one, the highest first.
func Digits(n int) func(yield func(byte) bool) {
	return func(yield func(byte) bool) {
		if n < 0 && !yield('-') {
			return
		}
		rest := size(n)
		for unit := highestUnit(rest); unit > 0; unit /= 10 {
			if !yield('0' + byte(rest/unit%10)) {
				return
			}
		}
	}
}

// size is how far a number is from 0.
func size(n int) uint64 {
	if n < 0 {
		// The least int has no int of its size: so it is turned without a sign.
		return -uint64(n)
	}
	return uint64(n)
}

// highestUnit is what a 1 in the place of n's first digit counts.
func highestUnit(n uint64) uint64 {
	unit := uint64(1)
	// Divided, not multiplied: ten times the unit might go round.
	for n/unit >= 10 {
		unit *= 10
	}
	return unit
}

// Read is the count that digits say.
func Read(s string) (int, api.Errno) {
	if s == "" {
		return 0, api.ErrShort
	}
	// What follows a nought is a fault whatever it is: a digit, or none.
	if s[0] == '0' && len(s) > 1 {
		return 0, api.ErrField
	}
	n := 0
	for i := range len(s) {
		if s[i] < '0' || s[i] > '9' {
			return 0, api.ErrField
		}
		d := int(s[i] - '0')
		// Asked ahead of the step: the number need never be above MaxCount.
		if n > (api.MaxCount-d)/10 {
			return 0, api.ErrRange
		}
		n = 10*n + d
	}
	return n, api.OK
}

// Hex is bytes in digits from 0 to F.
func Hex(s string) string {
	var out []byte
	for i := range len(s) {
		out = append(out, hexDigits[s[i]>>4], hexDigits[s[i]&15])
	}
	return string(out)
}

// Unhex is the bytes that digits say.
func Unhex(s string) (string, api.Errno) {
	var out []byte
	high := byte(0)
	for i := range len(s) {
		half, ok := hexValue(s[i])
		if !ok {
			return "", api.ErrField
		}
		if i%2 == 0 {
			high = half
		} else {
			out = append(out, high<<4|half)
		}
	}
	// Asked behind all digits: a byte that is none comes ahead of a missing one.
	if len(s)%2 == 1 {
		return "", api.ErrShort
	}
	return string(out), api.OK
}

// hexValue is what a digit from 0 to F counts; false: it is none.
func hexValue(b byte) (byte, bool) {
	switch {
	case b >= '0' && b <= '9':
		return b - '0', true
	case b >= 'A' && b <= 'F':
		return b - 'A' + 10, true
	}
	return 0, false
}

// Within brings a number between two.
func Within[T int | int64 | uint32](n, least, most T) T {
	if n < least {
		return least
	}
	if n > most {
		return most
	}
	return n
}
