// Package text is layer 1: letters, numbers, atoms, quoted texts (shared/doc/01-text.md).
package text

import (
	"strconv"
	"strings"
	"unicode/utf8"

	"pigeonhole/api"
)

// Lower is a text with small letters.
func Lower(s string) string {
	small := []byte(s)
	for i, r := range s {
		if r >= 'A' && r <= 'Z' {
			small[i] += 'a' - 'A'
		}
	}
	return string(small)
}

// Same: are two texts the same, but for great and small letters?
func Same(a, b string) bool { return Lower(a) == Lower(b) }

// Number is a text's number.
func Number(s string) (int, int, api.Errno) {
	if s == "" {
		return 0, 0, api.ErrShort
	}
	n := 0
	// All ahead of a fault are digits of one byte, so that its byte is its place.
	for i, r := range s {
		if r < '0' || r > '9' || i > 0 && s[0] == '0' {
			return 0, i, api.ErrForm
		}
		// It stays just above the limit, so that no row of digits goes round.
		n = min(n*10+int(r-'0'), api.MaxNumber+1)
	}
	if n > api.MaxNumber {
		return 0, 0, api.ErrLimit
	}
	return n, 0, api.OK
}

// NumberText is a number's digits.
func NumberText(n int) (string, api.Errno) {
	if n < 0 || n > api.MaxNumber {
		return "", api.ErrLimit
	}
	return strconv.Itoa(n), api.OK
}

// Atom: is a text an atom?
func Atom(s string) bool {
	for _, r := range s {
		if r < 33 || r > 126 || strings.ContainsRune(`(){%*"\]`, r) {
			return false
		}
	}
	return s != ""
}

// Quote is a text between signs.
func Quote(s string) (string, int, api.Errno) {
	if len(s) > api.MaxText {
		return "", 0, api.ErrLimit
	}
	quoted := []byte{'"'}
	place := 0
	for i, r := range s {
		if !plain(s, i, r) {
			return "", place, api.ErrForm
		}
		if r == '"' || r == '\\' {
			quoted = append(quoted, '\\')
		}
		quoted = utf8.AppendRune(quoted, r)
		place++
	}
	return string(append(quoted, '"')), 0, api.OK
}

// Unquote is what a text quotes, and how many bytes that has.
func Unquote(s string) (string, int, api.Errno) {
	var said []byte
	place, escaped := 0, false
	for i, r := range s {
		switch {
		case !quotes(s, i, r, escaped):
			return "", place, api.ErrForm
		case i == 0: // the sign at the beginning is not what is quoted
		case escaped || r != '"' && r != '\\':
			said = utf8.AppendRune(said, r)
			escaped = false
		case r == '\\':
			escaped = true
		case len(said) > api.MaxText:
			return "", 0, api.ErrLimit
		default:
			return string(said), i + 1, api.OK
		}
		place++
	}
	return "", place, api.ErrShort
}

// Word is a text up to its first blank, and what stands behind.
func Word(s string) (string, string) {
	word, rest, _ := strings.Cut(s, " ")
	return word, rest
}

// quotes: does a quoted text go on with the letter r of s at the byte i?
func quotes(s string, i int, r rune, escaped bool) bool {
	switch {
	case i == 0:
		return r == '"'
	case escaped:
		return r == '"' || r == '\\'
	}
	return plain(s, i, r)
}

// plain: is the letter r of s at the byte i a plain one?
func plain(s string, i int, r rune) bool {
	if r == utf8.RuneError {
		// A range tells this of the letter fffd, and of a byte that belongs to no letter.
		_, size := utf8.DecodeRuneInString(s[i:])
		return size > 1
	}
	return r >= 32 && r != 127
}
