package view

import (
	"slices"
	"strconv"
	"strings"

	"pigeonhole/api"
	"pigeonhole/head"
	"pigeonhole/mime"
	"pigeonhole/text"
)

// Fetch is what is told of a letter.
func Fetch(n int, x api.Letter, l []api.Item, uid bool) (string, api.Errno) {
	if e := Check(l); e != api.OK {
		return "", e
	}
	number, e := text.NumberText(n)
	if _, fault := text.NumberText(x.UID); e != api.OK || fault != api.OK {
		return "", api.ErrArg
	}
	var told []string
	if uid && !slices.ContainsFunc(l, func(i api.Item) bool { return i.See == api.SeeUID }) {
		told = append(told, tell(x, api.Item{See: api.SeeUID}))
	}
	for _, i := range l {
		told = append(told, tell(x, i))
	}
	return strings.Join([]string{"*", number, "FETCH", list(told)}, blank), api.OK
}

// tell is what is told of an item that is right.
func tell(x api.Letter, i api.Item) string {
	name := word(i.See)
	if name == "" {
		name = "BODY[" + section(i) + sectionEnd
	}
	if i.Part {
		name += partBegin + strconv.Itoa(i.From) + partEnd
	}
	return name + blank + answer(x, i)
}

// answer is what stands behind an item's name.
func answer(x api.Letter, i api.Item) string {
	switch i.See {
	case api.SeeUID:
		return strconv.Itoa(x.UID)
	case api.SeeFlags:
		return Flags(x.Flags)
	case api.SeeSize:
		return strconv.Itoa(len(x.Bytes))
	case api.SeeEnvelope:
		return Envelope(x.Bytes)
	case api.SeeStructure:
		s, e := mime.Structure(x.Bytes)
		if e != api.OK {
			return nothing
		}
		return s
	case api.SeeFields:
		return counted(fieldLines(x.Bytes, i.Names) + lineEnd)
	}
	from, to, e := mime.Section(x.Bytes, i.Path)
	if e != api.OK {
		return nothing
	}
	return counted(string(piece(x.Bytes[from:to], i)))
}

// piece is the part of a section for which an item asks: all of it, if it asks for none.
func piece(b []byte, i api.Item) []byte {
	if !i.Part {
		return b
	}
	b = b[min(i.From, len(b)):]
	return b[:min(i.Size, len(b))]
}

// fieldLines is the lines of a letter's fields of some names.
func fieldLines(b []byte, names []string) string {
	fields, body, _ := head.Split(b) // none with an error
	lines := string(b[:body])
	// Behind a line's end there stands one more only if an empty line ends the head: it is no field's.
	if strings.HasSuffix(lines, lineEnd+lineEnd) {
		lines = strings.TrimSuffix(lines, lineEnd)
	}
	told := ""
	for n, f := range fields {
		end := len(lines)
		if n+1 < len(fields) {
			end = fields[n+1].At
		}
		if slices.ContainsFunc(names, func(name string) bool { return text.Same(name, f.Name) }) {
			told += lines[f.At:end]
		}
	}
	return told
}
