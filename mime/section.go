package mime

import (
	"slices"
	"strings"

	"pigeonhole/api"
	"pigeonhole/text"
)

// Words of a path.
const (
	headWord  = "header"
	bodyWord  = "text"
	pieceWord = "mime"
)

// Section is where a section begins and ends.
func Section(b []byte, path string) (int, int, api.Errno) {
	numbers, word, ok := route(path)
	if !ok {
		return 0, 0, api.ErrForm
	}
	if len(numbers) == 0 {
		return ofLetter(open(b, whole(b)), word)
	}
	l, e := Parse(b)
	if e != api.OK {
		return 0, 0, e
	}
	at := 0
	for _, n := range numbers {
		if at, ok = step(l, at, n); !ok {
			return 0, 0, api.ErrGone
		}
	}
	return ofPiece(l, at, word)
}

// route is what a path is made of: its numbers, and the word behind them, in small letters; false, if it is none.
func route(path string) ([]int, string, bool) {
	if path == "" {
		return nil, "", true
	}
	steps := strings.Split(path, ".")
	last := len(steps) - 1
	word := text.Lower(steps[last])
	switch {
	case word == headWord, word == bodyWord, word == pieceWord && last > 0:
		steps = steps[:last]
	default:
		word = ""
	}
	var numbers []int
	for _, s := range steps {
		n, _, e := text.Number(s)
		if e != api.OK || n == 0 {
			return nil, "", false
		}
		numbers = append(numbers, n)
	}
	return numbers, word, true
}

// step is the piece to which a number goes from another one; false, if there is none.
func step(l []api.Piece, at, number int) (int, bool) {
	for holdsLetter(l[at]) {
		at++ // the piece within it stands right behind it
	}
	if _, many := boundary(l[at]); !many {
		return at, number == 1
	}
	to := slices.IndexFunc(l, func(x api.Piece) bool { return x.Of == at && x.Number == number })
	return to, to >= 0
}

// ofLetter is a section of a letter, or of one within.
func ofLetter(x api.Piece, word string) (int, int, api.Errno) {
	switch word {
	case headWord:
		return x.From, x.Body, api.OK
	case bodyWord:
		return x.Body, x.To, api.OK
	}
	return x.From, x.To, api.OK
}

// ofPiece is a section of a piece to which numbers went.
func ofPiece(l []api.Piece, at int, word string) (int, int, api.Errno) {
	x := l[at]
	switch {
	case word == pieceWord:
		return x.From, x.Body, api.OK
	case word == "":
		return x.Body, x.To, api.OK
	case holdsLetter(x):
		return ofLetter(l[at+1], word)
	}
	return 0, 0, api.ErrGone
}
