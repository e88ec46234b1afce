package deed

import "pigeonhole/api"

// fault is what is wrong with bytes that are read.
type fault struct{ errno api.Errno }

// reader takes values off the left of bytes. It panics with a fault, so that whoever reads by it need not ask behind each value.
type reader struct{ rest []byte }

// read has bytes read, all of them, and tells the fault that is met.
func read(b []byte, by func(*reader)) (e api.Errno) {
	defer func() {
		r := recover()
		if r == nil {
			return
		}
		f, ok := r.(fault)
		if !ok {
			panic(r) // no fault of the bytes
		}
		e = f.errno
	}()
	r := &reader{b}
	by(r)
	if len(r.rest) > 0 {
		panic(fault{api.ErrForm})
	}
	return api.OK
}

// next takes n bytes.
func (r *reader) next(n int) []byte {
	if n > len(r.rest) {
		panic(fault{api.ErrShort})
	}
	var b []byte
	b, r.rest = r.rest[:n], r.rest[n:]
	return b
}

// number takes a number of so many bytes.
func (r *reader) number(size int) int {
	n := 0
	for _, c := range r.next(size) {
		n = n<<8 | int(c)
	}
	return n
}

// text takes a text.
func (r *reader) text() string { return string(r.next(r.number(1))) }

// body takes a body, in memory of its own.
func (r *reader) body() []byte { return append([]byte(nil), r.next(r.number(2))...) }

// putNumber lays a number of so many bytes behind others.
func putNumber(b []byte, size, n int) []byte {
	for i := range size {
		b = append(b, byte(n>>(8*(size-1-i))))
	}
	return b
}

// putText lays a text behind others.
func putText(b []byte, s string) []byte {
	return append(putNumber(b, 1, len(s)), s...)
}

// putBody lays a body behind others.
func putBody(b, p []byte) []byte {
	return append(putNumber(b, 2, len(p)), p...)
}
