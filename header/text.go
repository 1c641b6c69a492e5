package header

import "winkle/api"

// Get tells a field's value.
func Get(fields []api.Field, name string) (string, bool) {
	for _, f := range fields {
		if Same(f.Name, name) {
			return f.Value, true
		}
	}
	return "", false
}

// Same tells whether two texts are alike but for capital letters.
func Same(a, b string) bool {
	if len(a) != len(b) {
		return false
	}
	for i := range len(a) {
		if lower(a[i]) != lower(b[i]) {
			return false
		}
	}
	return true
}

// lower makes a capital letter a small one. No byte but A to Z is one, whatever the bytes around it may spell.
func lower(b byte) byte {
	if 'A' <= b && b <= 'Z' {
		return b + 'a' - 'A'
	}
	return b
}

// Trim tells a text without the blanks at its ends.
func Trim(s string) string {
	s = s[lead(s):]
	return s[:tail(s)]
}

// blank tells whether a rune is a blank. No other rune has a blank's byte in it, nor is one lost among bytes that are no runes.
func blank(r rune) bool { return r == 9 || r == ' ' }

// lead tells where the blanks end that a text begins with.
func lead(s string) int {
	for i, r := range s {
		if !blank(r) {
			return i
		}
	}
	return len(s)
}

// tail tells where the blanks begin that a text ends with.
func tail(s string) int {
	begin := len(s)
	for i, r := range s {
		if blank(r) {
			begin = min(begin, i)
		} else {
			begin = len(s)
		}
	}
	return begin
}
