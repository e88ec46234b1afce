package mime

import (
	"strings"

	"pigeonhole/api"
	"pigeonhole/text"
)

// Kind is a kind, and its parameters.
func Kind(value string) (string, [][2]string, api.Errno) {
	r := &reader{left: strings.Trim(value, blanks)}
	kind := r.token() + r.sign("/") + r.token()
	var params [][2]string
	for r.left != "" && !r.bad {
		r.skip()
		r.sign(";")
		r.skip()
		name := r.token()
		r.sign("=")
		params = append(params, [2]string{text.Lower(name), r.value()})
	}
	switch {
	case r.bad:
		return "", nil, api.ErrForm
	case len(params) > api.MaxParams:
		return "", nil, api.ErrLimit
	}
	return text.Lower(kind), params, api.OK
}

// reader takes what a kind is made of off the left of a text. What is not there makes it bad, so that whoever reads by it need ask but once, at the end.
type reader struct {
	left string
	bad  bool
}

// token takes a token.
func (r *reader) token() string {
	size := strings.IndexFunc(r.left, ends)
	if size < 0 {
		size = len(r.left)
	}
	return r.take(size)
}

// sign takes a sign.
func (r *reader) sign(s string) string {
	if !strings.HasPrefix(r.left, s) {
		return r.take(0)
	}
	return r.take(len(s))
}

// value takes a parameter's value.
func (r *reader) value() string {
	if !strings.HasPrefix(r.left, `"`) {
		return r.token()
	}
	said, size, e := text.Unquote(r.left)
	if e != api.OK {
		size = 0 // what it tells is the fault's place
	}
	r.take(size)
	return said
}

// take takes so many bytes; none are what is not there.
func (r *reader) take(size int) string {
	r.bad = r.bad || size == 0
	taken := r.left[:size]
	r.left = r.left[size:]
	return taken
}

// skip takes blanks, if there are some.
func (r *reader) skip() { r.left = strings.TrimLeft(r.left, blanks) }

// ends: does a letter end a token?
func ends(c rune) bool { return c < 33 || c > 126 || strings.ContainsRune(`()<>@,;:\"/[]?=`, c) }
