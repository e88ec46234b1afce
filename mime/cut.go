package mime

import (
	"bytes"

	"pigeonhole/api"
)

// within goes through the pieces within another one: what it answers tells, call by call, where the next one begins and ends; false, once there is none.
func within(b []byte, x api.Piece) func() (int, int, bool) {
	if mark, many := boundary(x); many {
		return cut(b[:x.To], x.Body, mark)
	}
	left := holdsLetter(x)
	return func() (int, int, bool) {
		if !left {
			return 0, 0, false
		}
		left = false
		return x.Body, x.To, true
	}
}

// cut goes through the pieces of many, whose body is what stands in b from a place on.
func cut(b []byte, body int, boundary string) func() (int, int, bool) {
	mark := []byte("--" + boundary)
	_, at, opens := marked(b, body, mark)
	return func() (int, int, bool) {
		if !opens {
			return 0, 0, false
		}
		from, to := at, 0
		to, at, opens = marked(b, from, mark)
		return from, to, true
	}
}

// marked looks for a boundary's or an end's line, from a line that begins at a place on: it tells where that ends which stands ahead of it, where that begins which stands behind it, and whether a piece begins there.
func marked(b []byte, at int, mark []byte) (int, int, bool) {
	ahead := at
	for at < len(b) {
		line, next := lineAt(b, at)
		if rest, ok := bytes.CutPrefix(line, mark); ok {
			switch string(bytes.TrimRight(rest, blanks)) {
			case "":
				return ahead, next, true
			case "--":
				return ahead, next, false
			}
		}
		ahead, at = at+len(line), next
	}
	return len(b), len(b), false
}

// lineAt is the line that begins at a place, without its end, and where the next one does.
func lineAt(b []byte, at int) ([]byte, int) {
	size := bytes.Index(b[at:], []byte(lineEnd))
	if size < 0 {
		return b[at:], len(b)
	}
	return b[at : at+size], at + size + len(lineEnd)
}
