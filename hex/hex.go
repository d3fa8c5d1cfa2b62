// Package hex: bytes as hexadecimal digits.
package hex

import "cattlecreep/api"

const digits = "0123456789abcdef"

// keySize is how many digits a key has.
const keySize = 64

// Text of bytes (P1.1).
func Text(b []byte) string {
	text := make([]byte, 0, 2*len(b))
	for _, x := range b {
		text = append(text, digits[x>>4], digits[x&15])
	}
	return string(text)
}

// Bytes of a text (P1.2).
func Bytes(s string) ([]byte, api.Errno) {
	if len(s) > 2*api.MaxBytes {
		return nil, api.ErrSize
	}
	if len(s)%2 != 0 || !allDigits(s) {
		return nil, api.ErrForm
	}
	b := make([]byte, len(s)/2)
	for i := range b {
		high, _ := value(s[2*i])
		low, _ := value(s[2*i+1])
		b[i] = high<<4 | low
	}
	return b, api.OK
}

// Check a key (P1.3).
func Check(s string) api.Errno {
	if len(s) != keySize {
		return api.ErrSize
	}
	if !allDigits(s) {
		return api.ErrForm
	}
	return api.OK
}

func allDigits(s string) bool {
	// By bytes: ranging over the string itself would decode runes.
	for i := range len(s) {
		if _, ok := value(s[i]); !ok {
			return false
		}
	}
	return true
}

// value of one digit. Capital letters are no digits here: Text never writes them, so accepting them would give a key two spellings.
func value(c byte) (byte, bool) {
	switch {
	case '0' <= c && c <= '9':
		return c - '0', true
	case 'a' <= c && c <= 'f':
		return c - 'a' + 10, true
	}
	return 0, false
}
