package wal

import (
	"bytes"
	"iter"

	"pigeonhole/api"
	"pigeonhole/disk"
	"pigeonhole/frame"
)

// generationSize is how many bytes a head's number has.
const generationSize = 8

// half is a half of a log: at which page its head is, and how many pages it has, this one too.
type half struct {
	disk *disk.Disk
	head int
	all  int
}

// size is how many bytes the half's space has.
func (h half) size() int { return (h.all - 1) * api.Page }

// generation is the number of the half's head; 0, if it does not count.
func (h half) generation() int {
	p, _ := h.disk.Read(h.head)
	held, _, e := frame.One(p, 0)
	if e != api.OK || len(held) != generationSize {
		return 0
	}
	n := uint64(0)
	for _, b := range held {
		n = n<<8 | uint64(b)
	}
	if n > maxGeneration {
		return 0
	}
	return int(n)
}

// read is what stands in the half's space.
func (h half) read() []byte {
	var b []byte
	for i := range h.all - 1 {
		p, _ := h.disk.Read(h.head + 1 + i)
		b = append(b, p...)
	}
	return b
}

// strike has the half's head count no more, and makes that sure.
func (h half) strike() api.Errno {
	if p, _ := h.disk.Read(h.head); bytes.Equal(p, make([]byte, api.Page)) {
		return api.OK
	}
	if e := h.disk.Write(h.head, nil); e != api.OK {
		return e
	}
	return h.disk.Flush()
}

// renew has b stand in the half's space, and then the generation in its head.
func (h half) renew(b []byte, generation int) api.Errno {
	if _, e := h.write(h.others(b)); e != api.OK {
		return e
	}
	// The space is sure ahead of the head: what counts is whole.
	if e := h.disk.Flush(); e != api.OK {
		return e
	}
	n := make([]byte, generationSize)
	for i := range n {
		n[i] = byte(generation >> (8 * (generationSize - 1 - i)))
	}
	f, _ := frame.Pack(n)
	if e := h.disk.Write(h.head, f); e != api.OK {
		return e
	}
	return h.disk.Flush()
}

// write writes the pages of the half's space that it is told, and is how many these are.
func (h half) write(told iter.Seq2[int, []byte]) (int, api.Errno) {
	n := 0
	for i, p := range told {
		if e := h.disk.Write(h.head+1+i, p); e != api.OK {
			return n, e
		}
		n++
	}
	return n, api.OK
}

// others tells the pages of b that are other ones in the half's space.
func (h half) others(b []byte) iter.Seq2[int, []byte] {
	return func(tell func(int, []byte) bool) {
		for i, p := range pages(b, 0, len(b)) {
			is, _ := h.disk.Read(h.head + 1 + i)
			if !bytes.Equal(is, p) && !tell(i, p) {
				return
			}
		}
	}
}

// pages tells the pages of a space that have bytes from a place on, up to another one.
func pages(b []byte, from, to int) iter.Seq2[int, []byte] {
	return func(tell func(int, []byte) bool) {
		for i := from / api.Page; i*api.Page < to; i++ {
			if !tell(i, cut(b, i*api.Page, api.Page)) {
				return
			}
		}
	}
}

// cut is n bytes from a place on, behind which none can be laid.
func cut(b []byte, at, n int) []byte { return b[at : at+n : at+n] }
