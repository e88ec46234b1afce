// Package lines is layer 2: lines and bodies out of the bytes of a connection (shared/doc/02-lines.md).
package lines

import (
	"bytes"

	"pigeonhole/api"
)

const (
	lineEnd = "\r\n"
	bodyEnd = "." + lineEnd
)

// Buf is bytes that wait.
type Buf struct{ wait []byte }

// New is a buffer without bytes.
func New() *Buf { return &Buf{} }

// Feed lays bytes behind.
func (b *Buf) Feed(p []byte) api.Errno {
	if b == nil {
		return api.ErrNil
	}
	if len(p) > api.MaxBuf-len(b.wait) {
		return api.ErrFull
	}
	b.wait = append(b.wait, p...)
	return api.OK
}

// Line takes a line.
func (b *Buf) Line() (string, api.Errno) {
	if b == nil {
		return "", api.ErrNil
	}
	line, ok := first(b.wait)
	if !ok {
		return "", api.ErrShort
	}
	b.take(len(line))
	line = line[:len(line)-len(lineEnd)]
	if len(line) > api.MaxLine {
		return "", api.ErrLimit
	}
	return string(line), api.OK
}

// Raw takes bytes.
func (b *Buf) Raw(n int) ([]byte, api.Errno) {
	switch {
	case b == nil:
		return nil, api.ErrNil
	case n < 0:
		return nil, api.ErrArg
	case n > len(b.wait):
		return nil, api.ErrShort
	}
	return bytes.Clone(b.take(n)), api.OK
}

// Body takes a dotted body.
func (b *Buf) Body() ([]byte, api.Errno) {
	if b == nil {
		return nil, api.ErrNil
	}
	body, n, e := Unstuff(b.wait)
	if e != api.OK {
		return nil, e
	}
	b.take(n)
	return body, api.OK
}

// Wait is how many bytes wait.
func (b *Buf) Wait() int {
	if b == nil {
		return 0
	}
	return len(b.wait)
}

// Fork is another buffer that is alike.
func (b *Buf) Fork() *Buf {
	if b == nil {
		return nil
	}
	return &Buf{wait: bytes.Clone(b.wait)}
}

// Stuff is a dotted body.
func Stuff(p []byte) []byte {
	var dotted []byte
	for len(p) > 0 {
		line, whole := first(p)
		if !whole {
			line = p
		}
		if line[0] == '.' {
			dotted = append(dotted, '.')
		}
		dotted = append(dotted, line...)
		if !whole {
			dotted = append(dotted, lineEnd...)
		}
		p = p[len(line):]
	}
	return append(dotted, bodyEnd...)
}

// Unstuff is a dotted body's body, and how many bytes it has.
func Unstuff(p []byte) ([]byte, int, api.Errno) {
	var body []byte
	at := 0
walk:
	for {
		line, whole := first(p[at:])
		at += len(line)
		switch {
		case !whole:
			return nil, 0, api.ErrShort
		case string(line) == bodyEnd:
			break walk
		case line[0] == '.':
			line = line[1:]
		}
		body = append(body, line...)
	}
	return body, at, api.OK
}

// first is the line at the beginning of p, with its end; false, if it has none.
func first(p []byte) ([]byte, bool) {
	i := bytes.Index(p, []byte(lineEnd))
	if i < 0 {
		return nil, false
	}
	return p[:i+len(lineEnd)], true
}

// take is the first n bytes that wait, which wait no more.
func (b *Buf) take(n int) []byte {
	// Without spare room behind either, nothing that is laid behind the one lies in the other.
	taken := b.wait[:n:n]
	b.wait = b.wait[n:len(b.wait):len(b.wait)]
	return taken
}
