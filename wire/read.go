package wire

import (
	"pigeonhole/api"
	"pigeonhole/deed"
)

// counter counts bytes that are taken off the left: at is how many, of all that there are. Once there were too few it is short, and counts none any more, so that whoever takes by it need ask but once, at the end.
type counter struct {
	at, all int
	short   bool
}

// left is how many bytes are not taken.
func (c *counter) left() int { return c.all - c.at }

// count takes n bytes, if there are so many.
func (c *counter) count(n int) bool {
	c.short = c.short || n > c.left()
	if !c.short {
		c.at += n
	}
	return !c.short
}

// reader takes values off the left of bytes. A value that is short is zero.
type reader struct {
	counter
	bytes []byte
}

// read is the message that a frame holds, or what is wrong with the bytes.
func read(held []byte) (api.Mail, api.Errno) {
	r := &reader{counter{all: len(held)}, held}
	m := api.Mail{Kind: api.Kind(r.number(1))} // a frame holds one byte at least
	if !known(m.Kind) {
		return api.Mail{}, api.ErrType
	}
	m.From = r.number(1)
	m.To = r.number(1)
	if ofTx(m.Kind) {
		m.Tx = r.tx()
	}
	e := r.fields(&m)
	switch {
	case r.short:
		e = api.ErrShort
	case e == api.OK && r.left() > 0:
		e = api.ErrForm
	}
	if e != api.OK {
		return api.Mail{}, e
	}
	return m, api.OK
}

// fields takes what a message has behind its transaction, by its kind, and tells what is wrong with its deeds.
func (r *reader) fields(m *api.Mail) (e api.Errno) {
	switch m.Kind {
	case api.Ready:
		m.Part, e = r.part(m.Tx)
	case api.Told:
		m.Fate = api.Fate(r.number(1))
	case api.Want:
		m.N = r.number(4)
		m.User = r.text()
		m.Epoch = r.number(4)
	case api.Shown:
		m.N = r.number(4)
		fallthrough
	case api.Voted:
		m.Vote = r.vote()
	}
	return e
}

// tx takes a transaction's name.
func (r *reader) tx() api.Tx {
	return api.Tx{Node: r.number(1), Boot: r.number(4), N: r.number(4)}
}

// part takes a part of a transaction: its deeds are all that is left.
func (r *reader) part(tx api.Tx) (api.Part, api.Errno) {
	p := api.Part{Tx: tx, Peers: r.list(1), Epochs: r.list(4)}
	l, e := deed.TakeAll(r.next(r.left()))
	p.Deeds = l
	return p, e
}

// vote takes a vote.
func (r *reader) vote() api.Vote {
	return api.Vote{
		Errno:   api.Errno(r.number(1)),
		Numbers: r.list(4),
		Seat:    api.Seat{User: r.text(), Shard: r.number(1), Epoch: r.number(4)},
		Bytes:   r.body(),
	}
}

// list takes how many numbers there are, and these, of so many bytes each.
func (r *reader) list(size int) []int {
	var l []int
	for range r.number(1) {
		l = append(l, r.number(size))
	}
	return l
}

// text takes a text.
func (r *reader) text() string { return string(r.next(r.number(1))) }

// body takes a body, in memory of its own.
func (r *reader) body() []byte { return append([]byte(nil), r.next(r.number(2))...) }

// number takes a number of so many bytes.
func (r *reader) number(size int) int {
	n := 0
	for _, c := range r.next(size) {
		n = n<<8 | int(c)
	}
	return n
}

// next takes n bytes; none, if there are fewer.
func (r *reader) next(n int) []byte {
	from := r.at
	if !r.count(n) {
		return nil
	}
	return r.bytes[from:r.at]
}
