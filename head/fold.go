package head

import (
	"strings"

	"pigeonhole/api"
)

// mostWord is how many bytes a word may have, so that its line is not too long for Split.
const mostWord = 900

// Fold is a field's lines.
func Fold(name, value string) (string, api.Errno) {
	if e := checkField(name, value); e != api.OK {
		return "", e
	}
	next := words(value)
	folded, line := "", name+":"+next()
	for word := next(); word != ""; word = next() {
		if len(line)+len(word) > api.MaxFold {
			folded += line + lineEnd
			line = ""
		}
		line += word
	}
	return folded + line + lineEnd, api.OK
}

// Insert lays a field ahead of a letter.
func Insert(b []byte, name, value string) ([]byte, api.Errno) {
	folded, e := Fold(name, value)
	if e != api.OK {
		return nil, e
	}
	return append([]byte(folded), b...), api.OK
}

// checkField is what is wrong with a field that is to be folded.
func checkField(name, value string) api.Errno {
	if !rightName(name) || !rightValue(value) {
		return api.ErrForm
	}
	if len(value) > api.MaxText {
		return api.ErrLimit
	}
	next := words(value)
	for word := next(); word != ""; word = next() {
		if len(word)-1 > mostWord {
			return api.ErrLimit
		}
	}
	return api.OK
}

// rightValue: would a value that is folded be read as it was?
func rightValue(value string) bool {
	lone := true // no word ends here, so that a blank would be lost, or be one of two
	for i := range len(value) {
		c := value[i]
		if c < 32 && c != '\t' || c == 127 || blank(c) && lone {
			return false
		}
		lone = blank(c)
	}
	return !lone || value == ""
}

// words goes through a value: what it answers takes, call by call, the next word off what is left, with the blank ahead of it (the first one's stands behind the colon); nothing, once nothing is left.
func words(value string) func() string {
	left := " " + value
	return func() string {
		if left == "" {
			return ""
		}
		end := len(left)
		if i := strings.IndexAny(left[1:], blanks); i >= 0 {
			end = i + 1
		}
		word := left[:end]
		left = left[end:]
		return word
	}
}
