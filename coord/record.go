package coord

import (
	"slices"

	"pigeonhole/api"
)

// A record's kinds, as it begins with them.
const (
	kindLife = 1 + iota
	kindDone
	kindOver
)

// Redo does what a record says.
func (c *Coord) Redo(rec []byte) api.Errno {
	if c == nil {
		return api.ErrNil
	}
	r := &reader{rec}
	switch r.number(1) {
	case kindLife:
		if life := r.number(4); counts(life) && len(r.rest) == 0 {
			return c.live(life)
		}
	case kindDone:
		tx, right := c.name(r)
		if shards, rise := r.set(); right && rise {
			return c.finish(tx, shards)
		}
	case kindOver:
		if tx, right := c.name(r); right && len(r.rest) == 0 {
			return c.end(tx)
		}
	}
	return api.ErrForm
}

// Snapshot is records that make a node alike.
func (c *Coord) Snapshot() [][]byte {
	if c == nil || c.life == 0 {
		return nil
	}
	l := [][]byte{lifeRecord(c.life)}
	for _, t := range c.under {
		if t.done {
			l = append(l, doneRecord(t))
		}
	}
	return l
}

// live begins a life.
func (c *Coord) live(life int) api.Errno {
	if life <= c.life {
		return api.ErrState
	}
	c.life, c.next = life, 1
	c.under = slices.DeleteFunc(c.under, func(t transaction) bool { return !t.done })
	return api.OK
}

// finish has a transaction be done, behind the others.
func (c *Coord) finish(tx api.Tx, shards set) api.Errno {
	if tx.Boot > c.life || c.find(done(tx)) >= 0 {
		return api.ErrState
	}
	if at := c.find(asked(tx)); at >= 0 {
		if t := c.under[at]; !t.all() || t.shards != shards {
			return api.ErrState
		}
		c.remove(at)
	}
	if len(c.under) >= api.MaxOpen {
		return api.ErrFull
	}
	c.under = append(c.under, transaction{tx: tx, shards: shards, done: true})
	if tx.Boot == c.life {
		c.next = max(c.next, tx.N+1)
	}
	return api.OK
}

// end has a transaction that is done be under way no more.
func (c *Coord) end(tx api.Tx) api.Errno {
	at := c.find(done(tx))
	if at < 0 {
		return api.ErrState
	}
	c.remove(at)
	return api.OK
}

// lifeRecord is the record of a life.
func lifeRecord(life int) []byte { return putNumber([]byte{kindLife}, life) }

// doneRecord is the record of a transaction that is done.
func doneRecord(t transaction) []byte {
	var l []byte
	for shard, has := range t.shards {
		if has {
			l = append(l, byte(shard))
		}
	}
	b := append(putName([]byte{kindDone}, t.tx), byte(len(l)))
	return append(b, l...)
}

// overRecord is the record of a transaction that all know to be done.
func overRecord(tx api.Tx) []byte { return putName([]byte{kindOver}, tx) }

// putName lays a transaction's life and number behind others.
func putName(b []byte, tx api.Tx) []byte { return putNumber(putNumber(b, tx.Boot), tx.N) }

// putNumber lays a number of four bytes behind others.
func putNumber(b []byte, n int) []byte {
	return append(b, byte(n>>24), byte(n>>16), byte(n>>8), byte(n))
}

// reader takes values off the left of bytes. A number of which bytes are missing is 0; no record that has one is right, whatever is taken behind it.
type reader struct{ rest []byte }

// number takes a number of so many bytes.
func (r *reader) number(size int) int {
	if size > len(r.rest) {
		return 0
	}
	n := 0
	for _, b := range r.rest[:size] {
		n = n<<8 | int(b)
	}
	r.rest = r.rest[size:]
	return n
}

// set takes how many shards there are, and these, up to the end, and tells whether they are right.
func (r *reader) set() (set, bool) {
	count := r.number(1)
	var l []int
	for _, b := range r.rest {
		l = append(l, int(b))
	}
	s, right := setOf(l)
	return s, right && count == len(l)
}

// name takes the life and the number of a transaction of this node, and tells whether they are right.
func (c *Coord) name(r *reader) (api.Tx, bool) {
	tx := api.Tx{Node: c.node, Boot: r.number(4), N: r.number(4)}
	return tx, counts(tx.Boot) && counts(tx.N)
}

// counts: may a life, or a number in it, be n?
func counts(n int) bool { return n >= 1 && n <= api.MaxBoot }
