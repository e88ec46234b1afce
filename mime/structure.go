package mime

import (
	"strconv"
	"strings"

	"pigeonhole/api"
	"pigeonhole/text"
)

// nothing is what stands where there is nothing to tell.
const nothing = "NIL"

// Structure is a letter's text.
func Structure(b []byte) (string, api.Errno) {
	l, e := Parse(b)
	if e != api.OK {
		return "", e
	}
	return structure(l, 0), api.OK
}

// structure is a piece's text.
func structure(l []api.Piece, at int) string {
	x, inner := l[at], ""
	for i := at + 1; i < len(l); i++ {
		if l[i].Of == at {
			inner += structure(l, i)
		}
	}
	kind, detail, _ := strings.Cut(strings.ToUpper(x.Kind), "/")
	if _, many := boundary(x); many && inner != "" {
		return "(" + inner + " " + quoted(detail) + ")"
	}
	told := []string{quoted(kind), quoted(detail), params(x.Params), strconv.Itoa(x.To - x.Body)}
	if inner != "" {
		told = append(told, inner)
	}
	return "(" + strings.Join(told, " ") + ")"
}

// params is the text of a kind's parameters.
func params(l [][2]string) string {
	if len(l) == 0 {
		return nothing
	}
	var told []string
	for _, p := range l {
		told = append(told, quoted(strings.ToUpper(p[0])), quoted(p[1]))
	}
	return "(" + strings.Join(told, " ") + ")"
}

// quoted is a text between signs.
func quoted(s string) string {
	q, _, e := text.Quote(s)
	if e != api.OK {
		return nothing
	}
	return q
}
