package part

import (
	"pigeonhole/api"
	"pigeonhole/deed"
)

// A record's kinds, as it begins with them.
const (
	kindHolding = 1 + iota
	kindDecision
	kindArrival
	kindExit
	kindOutcome
)

// record is what a record says.
type record interface{ bytes() []byte }

// The records: a part is held; what is held, or is not, is done or dropped; a user is there; one left; a fate is known.
type (
	holding  struct{ part api.Part }
	decision struct {
		tx   api.Tx
		fate api.Fate
	}
	arrival struct {
		epoch int
		user  api.User
	}
	exit    struct{ seat api.Seat }
	outcome struct {
		tx   api.Tx
		fate api.Fate
	}
)

func (r holding) bytes() []byte {
	b := putTx([]byte{kindHolding}, r.part.Tx)
	b = putList(b, 1, r.part.Peers)
	b = putList(b, 4, r.part.Epochs)
	l, _ := deed.PutAll(r.part.Deeds) // what is to be held was checked
	return append(b, l...)
}

func (r decision) bytes() []byte {
	return append(putTx([]byte{kindDecision}, r.tx), byte(r.fate))
}

func (r arrival) bytes() []byte {
	u, _ := deed.PutUser(r.user) // a user of a store is right
	return append(putNumber([]byte{kindArrival}, 4, r.epoch), u...)
}

func (r exit) bytes() []byte {
	b := putNumber([]byte{kindExit}, 1, r.seat.Shard)
	return append(putNumber(b, 4, r.seat.Epoch), r.seat.User...)
}

func (r outcome) bytes() []byte {
	return append(putTx([]byte{kindOutcome}, r.tx), byte(r.fate))
}

// putNumber lays a number of so many bytes behind others.
func putNumber(b []byte, size, n int) []byte {
	for i := range size {
		b = append(b, byte(n>>(8*(size-1-i))))
	}
	return b
}

// putList lays how many numbers there are, and these, of so many bytes each.
func putList(b []byte, size int, l []int) []byte {
	b = putNumber(b, 1, len(l))
	for _, n := range l {
		b = putNumber(b, size, n)
	}
	return b
}

// putTx lays a transaction's name behind others.
func putTx(b []byte, tx api.Tx) []byte {
	return putNumber(putNumber(putNumber(b, 1, tx.Node), 4, tx.Boot), 4, tx.N)
}

// reader takes values off the left of bytes. A number of which bytes are missing is 0; no record that has one is right, whatever is taken behind it.
type reader struct{ rest []byte }

// number takes a number of so many bytes.
func (r *reader) number(size int) int {
	if size > len(r.rest) {
		return 0
	}
	n := 0
	for _, c := range r.rest[:size] {
		n = n<<8 | int(c)
	}
	r.rest = r.rest[size:]
	return n
}

// list takes how many numbers there are, and these, of so many bytes each.
func (r *reader) list(size int) []int {
	l := make([]int, r.number(1))
	for i := range l {
		l[i] = r.number(size)
	}
	return l
}

// tx takes a transaction's name.
func (r *reader) tx() api.Tx {
	return api.Tx{Node: r.number(1), Boot: r.number(4), N: r.number(4)}
}

// fate takes a fate that is known, which is the last one of its record.
func (r *reader) fate() (api.Fate, bool) {
	f := api.Fate(r.number(1))
	return f, (f == api.Done || f == api.Dropped) && len(r.rest) == 0
}

// read is what a record says to this shard; nil, if it is none.
func (p *Part) read(rec []byte) record {
	r := &reader{rec}
	switch r.number(1) {
	case kindHolding:
		return p.readHolding(r)
	case kindDecision:
		tx := r.tx()
		if f, known := r.fate(); known && right(tx) {
			return decision{tx, f}
		}
	case kindArrival:
		epoch := r.number(4)
		if u, e := deed.TakeUser(r.rest); e == api.OK && epoch >= 1 {
			return arrival{epoch, u}
		}
	case kindExit:
		s := api.Seat{Shard: r.number(1), Epoch: r.number(4)}
		s.User = string(r.rest)
		if deed.RightUser(s.User) && s.Epoch >= 1 && s.Shard != p.shard && s.Shard < p.shards {
			return exit{s}
		}
	case kindOutcome:
		tx := r.tx()
		if f, known := r.fate(); known && right(tx) {
			return outcome{tx, f}
		}
	}
	return nil
}

// readHolding is what a record of a part that is held says; nil, if it is none.
func (p *Part) readHolding(r *reader) record {
	x := api.Part{Tx: r.tx(), Peers: r.list(1), Epochs: r.list(4)}
	l, e := deed.TakeAll(r.rest)
	x.Deeds = l
	if e != api.OK || p.check(x) != api.OK {
		return nil
	}
	return holding{x}
}
