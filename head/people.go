package head

import (
	"strings"

	"pigeonhole/addr"
	"pigeonhole/api"
	"pigeonhole/text"
)

// People is a list of addresses.
func People(value string) ([]api.Person, int, api.Errno) {
	r := &reader{value}
	r.skip()
	if r.left == "" {
		return nil, 0, api.ErrShort
	}
	var l []api.Person
list:
	for {
		p, ok := r.person()
		switch {
		case ok && r.left == "":
			l = append(l, p)
			break list
		case ok && r.left[0] == ',':
			l = append(l, p)
			r.left = r.left[1:]
		default:
			return nil, len(l), api.ErrForm
		}
	}
	if len(l) > api.MaxList {
		return nil, 0, api.ErrLimit
	}
	return l, 0, api.OK
}

// Print is a list's text.
func Print(l []api.Person) (string, api.Errno) {
	switch {
	case len(l) == 0:
		return "", api.ErrShort
	case len(l) > api.MaxList:
		return "", api.ErrLimit
	}
	var parts []string
	for _, p := range l {
		a, e := addr.Print(p.Addr)
		if e != api.OK {
			return "", e
		}
		parts = append(parts, a)
	}
	for i, p := range l {
		if p.Name == "" {
			continue
		}
		q, e := quoted(p.Name)
		if e != api.OK {
			return "", e
		}
		parts[i] = q + " <" + parts[i] + ">"
	}
	return strings.Join(parts, ", "), api.OK
}

// quoted is a name between signs.
func quoted(name string) (string, api.Errno) {
	q, _, e := text.Quote(name)
	if e != api.OK {
		return "", e
	}
	for _, r := range name {
		if r > 126 {
			return "", api.ErrForm
		}
	}
	return q, api.OK
}

// reader takes what a list is made of off the left of a text.
type reader struct{ left string }

// person takes a person, with the blanks and remarks around; false, if there is none. What may stand behind one is not asked here.
func (r *reader) person() (api.Person, bool) {
	r.skip()
	from := r.left
	behind := from // of the last word
	var name []string
	for {
		word, ok := r.word()
		if !ok {
			break
		}
		name = append(name, word)
		behind = r.left
		r.skip()
	}
	if strings.HasPrefix(r.left, "<") {
		a, ok := r.path()
		r.skip()
		return api.Person{Name: strings.Join(name, " "), Addr: a}, ok
	}
	// An address is made of what words are made of: if blanks or remarks stand between them, it is none.
	a, _, e := addr.Parse(from[:len(from)-len(behind)])
	return api.Person{Addr: a}, e == api.OK
}

// path takes an address between its signs; false, if there is none, or it is empty.
func (r *reader) path() (api.Addr, bool) {
	a, rest, e := addr.Path(r.left)
	if e != api.OK || a == (api.Addr{}) {
		return api.Addr{}, false
	}
	r.left = rest
	return a, true
}

// word takes a word; false, if there is none.
func (r *reader) word() (string, bool) {
	if said, size, e := text.Unquote(r.left); e == api.OK {
		r.left = r.left[size:]
		return said, true
	}
	size := strings.IndexFunc(r.left, ends)
	if size < 0 {
		size = len(r.left)
	}
	word := r.left[:size]
	r.left = r.left[size:]
	return word, size > 0
}

// ends: does a letter end a word that is not quoted?
func ends(r rune) bool { return r < 33 || r > 126 || strings.ContainsRune(`()<>,":;\[]`, r) }

// skip takes blanks and remarks. The ( of a remark that is none stays, and nothing else takes it.
func (r *reader) skip() {
	r.left = strings.TrimLeft(r.left, blanks)
	for size := remark(r.left); size > 0; size = remark(r.left) {
		r.left = strings.TrimLeft(r.left[size:], blanks)
	}
}

// remark is how many bytes the remark has with which a text begins; 0, if it begins with none.
func remark(s string) int {
	if !strings.HasPrefix(s, "(") {
		return 0
	}
	deep := 0
	for i := 0; i < len(s); i++ {
		switch s[i] {
		case '(':
			deep++
		case ')':
			deep--
		case '\\':
			i++
		}
		switch {
		case deep == 0:
			return i + 1
		case deep > api.MaxNest:
			return 0
		}
	}
	return 0
}
