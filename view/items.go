package view

import (
	"strconv"
	"strings"

	"pigeonhole/api"
	"pigeonhole/text"
)

// What stands in an item's text.
const (
	peekBegin   = "BODY.PEEK["
	fieldsBegin = "HEADER.FIELDS "
	sectionEnd  = "]"
	partBegin   = "<"
	partPoint   = "."
	partEnd     = ">"
)

// Parse is a text's items.
func Parse(s string) ([]api.Item, api.Errno) {
	l, ok := read(s)
	if !ok {
		return nil, api.ErrForm
	}
	if e := Check(l); e != api.OK {
		return nil, e
	}
	return l, api.OK
}

// Print is items' text.
func Print(l []api.Item) (string, api.Errno) {
	if e := Check(l); e != api.OK {
		return "", e
	}
	var told []string
	for _, x := range l {
		s := word(x.See)
		if s == "" {
			s = peekBegin + section(x) + sectionEnd
		}
		if x.Part {
			s += partBegin + strconv.Itoa(x.From) + partPoint + strconv.Itoa(x.Size) + partEnd
		}
		told = append(told, s)
	}
	return list(told), api.OK
}

// word is the word of what is asked of a letter; none, if it has none alone.
func word(see api.See) string {
	switch see {
	case api.SeeUID:
		return "UID"
	case api.SeeFlags:
		return "FLAGS"
	case api.SeeSize:
		return "RFC822.SIZE"
	case api.SeeEnvelope:
		return "ENVELOPE"
	case api.SeeStructure:
		return "BODYSTRUCTURE"
	}
	return ""
}

// section is the text of a section, or of fields, that are asked for.
func section(x api.Item) string {
	if x.See == api.SeeFields {
		return fieldsBegin + list(x.Names)
	}
	return x.Path
}

// read is the items of a text, whether they are right or not; false, if there are none.
func read(s string) ([]api.Item, bool) {
	switch text.Lower(s) {
	case "fast":
		return first(2), true
	case "all":
		return first(3), true
	case "full":
		return first(4), true
	}
	if !strings.HasPrefix(s, opened) {
		x, rest, ok := item(s)
		return []api.Item{x}, ok && rest == ""
	}
	var l []api.Item
	for s != closed {
		x, rest, ok := item(s[1:]) // behind the ( or the blank
		if !ok || rest != closed && !strings.HasPrefix(rest, blank) {
			return nil, false
		}
		// With one more than there may be they are too many, whatever stands behind: so no more are kept.
		if len(l) <= api.MaxItems {
			l = append(l, x)
		}
		s = rest
	}
	return l, true
}

// first is so many of the items for which one word may stand.
func first(n int) []api.Item {
	var l []api.Item
	for _, see := range [...]api.See{api.SeeFlags, api.SeeSize, api.SeeEnvelope, api.SeeStructure} {
		l = append(l, api.Item{See: see})
	}
	return l[:n]
}

// item is the item with which a text begins, and what stands behind it; false, if it begins with none.
func item(s string) (api.Item, string, bool) {
	if behind, ok := cutWord(s, peekBegin); ok {
		return body(behind)
	}
	size := strings.IndexAny(s, " )")
	if size < 0 {
		size = len(s)
	}
	name := great(s[:size])
	for see := api.SeeUID; see <= api.SeeFields; see++ {
		if name != "" && name == word(see) {
			return api.Item{See: see}, s[size:], true
		}
	}
	return api.Item{}, "", false
}

// body is the item of a text that goes on behind its [, and what stands behind it; false, if it is none.
func body(s string) (api.Item, string, bool) {
	inner, rest, ended := strings.Cut(s, sectionEnd)
	if !ended {
		return api.Item{}, "", false
	}
	names, ok := cutWord(inner, fieldsBegin+opened)
	if !ok {
		return part(api.Item{See: api.SeeBody, Path: great(inner)}, rest)
	}
	names, ok = strings.CutSuffix(names, closed)
	// The last of more names than there may be has all that stands behind: it is no name, and they are too many.
	return api.Item{See: api.SeeFields, Names: strings.SplitN(names, blank, api.MaxList+1)}, rest, ok
}

// part is an item with its part, if the text behind it begins with one, and what stands behind that; false, if it begins as one, and is none.
func part(x api.Item, s string) (api.Item, string, bool) {
	s, there := strings.CutPrefix(s, partBegin)
	if !there {
		return x, s, true
	}
	inner, rest, ended := strings.Cut(s, partEnd)
	from, size, _ := strings.Cut(inner, partPoint)
	var e, fault api.Errno
	x.From, _, e = text.Number(from)
	x.Size, _, fault = text.Number(size) // nor is nothing a number
	x.Part = true
	return x, rest, ended && e == api.OK && fault == api.OK
}

// cutWord is what stands behind a word, in great or small letters; false, if a text does not begin with it.
func cutWord(s, word string) (string, bool) {
	if len(s) < len(word) || !text.Same(s[:len(word)], word) {
		return "", false
	}
	return s[len(word):], true
}
