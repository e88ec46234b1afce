package glob

import (
	"strings"

	"pigeonhole/text"
)

// inbox is the box whose name may have great and small letters.
const inbox = "INBOX"

// back is where a match may come back to: how much of the pattern there is up to a star, with it, and how much of the name that has taken.
type back struct {
	there         bool
	pattern, name int
}

// Match: does a pattern stand for a name?
func Match(pattern, name string) bool {
	if begins(pattern) && begins(name) {
		if rest := name[len(inbox):]; rest == "" || strings.HasPrefix(rest, sign) {
			pattern, name = pattern[len(inbox):], rest
		}
	}
	return match(pattern, name)
}

// begins: does a text begin with the letters of INBOX?
func begins(s string) bool {
	return len(s) >= len(inbox) && text.Same(s[:len(inbox)], inbox)
}

// match is Match of all names alike. Each star stands for as little as it can, and for more, where the match does not go on: of several only the last * needs to, or a % behind it, as what is ahead of that has taken least already.
func match(pattern, name string) bool {
	var star, part back // the last *, and the last % behind it
	p, n := 0, 0        // how much of both is matched
	for {
	along:
		for p < len(pattern) && n < len(name) {
			switch pattern[p] {
			case '*':
				star, part = back{true, p + 1, n}, back{}
			case '%':
				part = back{true, p + 1, n}
			case name[n]:
				n++
			default:
				break along
			}
			p++
		}
		switch {
		case n == len(name): // where a star takes more, even less is left
			return strings.Trim(pattern[p:], "*%") == ""
		case part.there && name[part.name] != sign[0]:
			part.name++
			p, n = part.pattern, part.name
		case star.there:
			if part.there {
				// Between both stands just as many a / as before: so the % comes no farther, unless the * takes the next one.
				star.name += strings.Index(name[star.name:], sign)
			}
			star.name++
			p, n, part = star.pattern, star.name, back{}
		default:
			return false
		}
	}
}
