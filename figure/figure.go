// Package figure is layer 1: numbers, names and string literals as text. See shared/doc/01-figure.md.
package figure

import (
	"iter"
	"math"
	"strconv"
	"strings"

	"annexe/api"
)

const (
	quote     = '\''
	hexDigits = "0123456789abcdef"
)

// Text returns a number in decimal.
func Text(n int) string { return strconv.Itoa(n) }

// Read returns the number that decimal digits denote.
func Read(s string) (int, api.Errno) {
	if s == "" {
		return 0, api.ErrShort
	}
	n, over := 0, false
	for c := range bytesOf(s) {
		if !isDigit(c) {
			return 0, api.ErrForm
		}
		d := int(c - '0')
		// A number that is too great is still read to its end: a later byte
		// that is not a digit comes first among the errors.
		over = over || n > (math.MaxInt64-d)/10
		if !over {
			n = n*10 + d
		}
	}
	if over {
		return 0, api.ErrOver
	}
	return n, api.OK
}

// Name reports whether a string is a name.
func Name(s string) bool {
	if s == "" || len(s) > api.MaxName || isDigit(s[0]) {
		return false
	}
	for c := range bytesOf(s) {
		if !isLetter(c) && !isDigit(c) {
			return false
		}
	}
	return true
}

// Fold returns a string with small letters in place of capital ones.
func Fold(s string) string {
	var b strings.Builder
	b.Grow(len(s))
	for c := range bytesOf(s) {
		b.WriteByte(lower(c))
	}
	return b.String()
}

// Quote returns a string as a string literal.
func Quote(s string) string {
	var b strings.Builder
	b.WriteByte(quote)
	for c := range bytesOf(s) {
		if c == quote {
			b.WriteByte(quote)
		}
		b.WriteByte(c)
	}
	b.WriteByte(quote)
	return b.String()
}

// Unquote returns the string that a string literal denotes.
func Unquote(s string) (string, api.Errno) {
	if len(s) < 2 {
		return "", api.ErrShort
	}
	last := len(s) - 1
	if s[0] != quote || s[last] != quote {
		return "", api.ErrForm
	}
	return undouble(s[1:last])
}

// undouble returns a string with one single quote for each two.
func undouble(s string) (string, api.Errno) {
	var b strings.Builder
	open := false
	for c := range bytesOf(s) {
		if open && c != quote {
			return "", api.ErrForm
		}
		open = c == quote && !open
		// The first quote of a pair stands for nothing until the second follows.
		if !open {
			b.WriteByte(c)
		}
	}
	if open {
		return "", api.ErrForm
	}
	return b.String(), api.OK
}

// Hex returns bytes as hexadecimal digits.
func Hex(s string) string {
	var b strings.Builder
	for c := range bytesOf(s) {
		b.WriteByte(hexDigits[c>>4])
		b.WriteByte(hexDigits[c&15])
	}
	return b.String()
}

// Unhex returns the bytes that hexadecimal digits denote.
func Unhex(s string) (string, api.Errno) {
	if len(s)%2 != 0 {
		return "", api.ErrShort
	}
	var b strings.Builder
	high, half := 0, false
	for c := range bytesOf(s) {
		d := strings.IndexByte(hexDigits, lower(c))
		if d < 0 {
			return "", api.ErrForm
		}
		if half {
			b.WriteByte(byte(high<<4 | d))
		}
		high, half = d, !half
	}
	return b.String(), api.OK
}

// bytesOf produces the bytes of a string of any type; a range over the string
// itself would decode runes, and a string may contain any bytes.
func bytesOf[S ~string](s S) iter.Seq[byte] {
	return func(yield func(byte) bool) {
		for i := range len(s) {
			if !yield(s[i]) {
				return
			}
		}
	}
}

func isDigit(c byte) bool { return '0' <= c && c <= '9' }

func isLetter(c byte) bool {
	return c == '_' || 'a' <= lower(c) && lower(c) <= 'z'
}

func lower(c byte) byte {
	if 'A' <= c && c <= 'Z' {
		return c + ('a' - 'A')
	}
	return c
}
