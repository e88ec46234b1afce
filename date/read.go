package date

import (
	"strings"

	"pigeonhole/api"
	"pigeonhole/text"
)

const figures = "0123456789"

// reader takes letters off the left of a text. One with which the text does not go on stops it, as the text's end does: from then on it takes none, so that whoever reads by it need ask but once, at the end.
type reader struct {
	text string
	at   int       // how many letters are taken: all of them have one byte
	stop api.Errno // what stopped it
}

// is: is the next letter one of these?
func (r *reader) is(these string) bool {
	return r.at < len(r.text) && strings.IndexByte(these, r.text[r.at]) >= 0
}

// one takes one of these letters, great or small, and tells it as it stands there; nothing, once it is stopped.
func (r *reader) one(these string) string {
	if r.at == len(r.text) {
		r.stop = api.ErrShort
	}
	if r.stop != api.OK {
		return ""
	}
	i := strings.Index(text.Lower(these), text.Lower(r.text[r.at:r.at+1]))
	if i < 0 {
		r.stop = api.ErrForm
		return ""
	}
	r.at++
	return these[i : i+1]
}

// word takes one of some words of three letters each, and tells which one, from 0 on.
func (r *reader) word(words string) int {
	begun := ""
	for range 3 {
		begun += r.one(behind(words, begun))
	}
	return strings.Index(words, begun) / 3
}

// behind is the letters that may stand behind the beginning of a word.
func behind(words, begun string) string {
	next := ""
	for ; words != ""; words = words[3:] {
		if rest, ok := strings.CutPrefix(words, begun); ok {
			next += rest[:1]
		}
	}
	return next
}

// number takes a number of so many digits.
func (r *reader) number(size int) int {
	n := 0
	for range size {
		n = 10*n + r.digit(figures)
	}
	return n
}

// below takes a number of two digits that is below another one.
func (r *reader) below(most int) int {
	tens := r.digit(figures[:(most+9)/10])
	ones := figures
	if tens == most/10 {
		ones = figures[:most%10]
	}
	return 10*tens + r.digit(ones)
}

// digit takes one of these digits.
func (r *reader) digit(these string) int { return strings.Index(figures, r.one(these)) }

// end is how many letters are taken, and what stopped the reader; a letter that is left does, too.
func (r *reader) end() (int, api.Errno) {
	if r.at < len(r.text) {
		r.stop = api.ErrForm
	}
	return r.at, r.stop
}
