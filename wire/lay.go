package wire

import (
	"pigeonhole/api"
	"pigeonhole/deed"
)

// lay is what the frame of a message that is right holds, or what is wrong with its deeds.
func lay(m api.Mail) ([]byte, api.Errno) {
	b := []byte{byte(m.Kind), byte(m.From), byte(m.To)}
	if ofTx(m.Kind) {
		b = putTx(b, m.Tx)
	}
	switch m.Kind {
	case api.Ready:
		return putPart(b, m.Part)
	case api.Told:
		b = putNumber(b, 1, int(m.Fate))
	case api.Want:
		b = putNumber(b, 4, m.N)
		b = putText(b, m.User)
		b = putNumber(b, 4, m.Epoch)
	case api.Shown:
		b = putNumber(b, 4, m.N)
		fallthrough
	case api.Voted:
		b = putVote(b, m.Vote)
	}
	return b, api.OK
}

// putTx lays a transaction's name behind others.
func putTx(b []byte, tx api.Tx) []byte {
	return putNumber(putNumber(putNumber(b, 1, tx.Node), 4, tx.Boot), 4, tx.N)
}

// putPart lays a part, without its transaction, behind others.
func putPart(b []byte, p api.Part) ([]byte, api.Errno) {
	deeds, e := deed.PutAll(p.Deeds) // first, as there may be more deeds, and epochs, than a byte counts
	if e != api.OK {
		return nil, e
	}
	b = putList(b, 1, p.Peers)
	b = putList(b, 4, p.Epochs)
	return append(b, deeds...), api.OK
}

// putVote lays a vote behind others.
func putVote(b []byte, v api.Vote) []byte {
	b = putNumber(b, 1, int(v.Errno))
	b = putList(b, 4, v.Numbers)
	b = putText(b, v.Seat.User)
	b = putNumber(b, 1, v.Seat.Shard)
	b = putNumber(b, 4, v.Seat.Epoch)
	b = putNumber(b, 2, len(v.Bytes))
	return append(b, v.Bytes...)
}

// putList lays how many numbers there are, and these, of so many bytes each, behind others.
func putList(b []byte, size int, l []int) []byte {
	b = putNumber(b, 1, len(l))
	for _, n := range l {
		b = putNumber(b, size, n)
	}
	return b
}

// putText lays a text behind others.
func putText(b []byte, s string) []byte {
	return append(putNumber(b, 1, len(s)), s...)
}

// putNumber lays a number of so many bytes behind others.
func putNumber(b []byte, size, n int) []byte {
	for i := range size {
		b = append(b, byte(n>>(8*(size-1-i))))
	}
	return b
}
