package wal

import (
	"bytes"
	"slices"

	"pigeonhole/api"
)

// The kinds of chunks.
const (
	whole  = 1
	first  = 2
	middle = 3
	last   = 4
)

// A chunk has its kind and its length ahead of the bytes that it holds, and a sign behind them.
const (
	ahead     = 2
	around    = ahead + 1
	leastSize = around + 1
	behind    = 0xe7
)

// space is what stands in a half's space: records, their end, and 0 behind it.
type space struct {
	bytes   []byte
	end     int
	records [][]byte
}

// emptySpace is a space without records.
func emptySpace(size int) space { return space{bytes: make([]byte, size)} }

// readSpace is the space of which b has the records; what else stands in b is not in it.
func readSpace(b []byte) space {
	s := emptySpace(len(b))
	for {
		rec, end := record(b, s.end)
		if rec == nil {
			copy(s.bytes, cut(b, 0, s.end))
			return s
		}
		s.records, s.end = append(s.records, rec), end
	}
}

// clone is another space that is alike.
func (s space) clone() space {
	// The records themselves are never written into.
	return space{bytes.Clone(s.bytes), s.end, slices.Clone(s.records)}
}

// room is how many bytes a record may have that is laid behind the end.
func (s space) room() int {
	n := 0
	for at := start(s.end); at < len(s.bytes); at += onPage(at) {
		n += onPage(at) - around
	}
	return min(n, api.MaxPay)
}

// lay lays a record behind the end, if it fits.
func (s *space) lay(rec []byte) bool {
	if len(rec) > s.room() {
		return false
	}
	for from := 0; from < len(rec); {
		at := start(s.end)
		n := min(len(rec)-from, onPage(at)-around)
		c := cut(s.bytes, at, n+around)
		c[0], c[1] = kind(from == 0, from+n == len(rec)), byte(n)
		copy(c[ahead:], cut(rec, from, n))
		c[ahead+n] = behind
		from, s.end = from+n, at+len(c)
	}
	s.records = append(s.records, bytes.Clone(rec))
	return true
}

// record is the record that begins behind a place, and its end; nil, if none does.
func record(b []byte, at int) ([]byte, int) {
	var rec []byte
	for {
		k, held, end := chunk(b, start(at))
		begins := k == whole || k == first
		if held == nil || begins != (rec == nil) || len(rec)+len(held) > api.MaxPay {
			return nil, 0
		}
		rec, at = append(rec, held...), end
		if k == whole || k == last {
			return rec, at
		}
	}
}

// chunk is the chunk at a place: its kind, what it holds, where it ends; nil, if none is there.
func chunk(b []byte, at int) (byte, []byte, int) {
	if at >= len(b) {
		return 0, nil, 0
	}
	c := cut(b, at, onPage(at))
	k, n := c[0], int(c[1])
	if k < whole || k > last || n == 0 || n > len(c)-around || c[ahead+n] != behind {
		return 0, nil, 0
	}
	return k, cut(c, ahead, n), at + n + around
}

// start is where a chunk begins, from a place on.
func start(at int) int {
	if onPage(at) < leastSize {
		return at + onPage(at)
	}
	return at
}

// onPage is how many bytes of a place's page stand from it on.
func onPage(at int) int { return api.Page - at%api.Page }

// kind is the kind of a chunk that begins a record, or ends it, or does both.
func kind(begins, ends bool) byte {
	switch {
	case begins && ends:
		return whole
	case begins:
		return first
	case ends:
		return last
	}
	return middle
}
