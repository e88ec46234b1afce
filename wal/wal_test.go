package wal_test

import (
	"bytes"
	"math"
	"math/rand"
	"slices"
	"strings"
	"testing"

	"pigeonhole/api"
	"pigeonhole/disk"
	"pigeonhole/frame"
	"pigeonhole/wal"
)

// nothing is a crash by which nothing outlives that was not flushed, all one by which all does.
var (
	nothing = api.Crash{Torn: -1}
	all     = api.Crash{Torn: -1, Keep: slices.Repeat([]bool{true}, 4096)}
)

// top is the greatest generation.
const top = 1 << 62

// far are numbers that are far out of each range.
var far = []int{-1, -2, 513, 1 << 32, math.MaxInt, math.MaxInt - 63, math.MinInt}

// fresh is a new disk.
func fresh(t *testing.T, pages int) *disk.Disk {
	t.Helper()
	d, e := disk.New(pages)
	if d == nil || e != api.OK {
		t.Fatal("disk.New", pages, e)
	}
	return d
}

// open is the log of a disk.
func open(t *testing.T, d *disk.Disk, base, pages int) *wal.Log {
	t.Helper()
	l, e := wal.Open(d, base, pages)
	if l == nil || e != api.OK {
		t.Fatal("Open", base, pages, e)
	}
	return l
}

// told holds what a call told to what it is to tell.
func told(t *testing.T, what string, e, want api.Errno) {
	t.Helper()
	if e != want {
		t.Errorf("%s = %d, want %d", what, e, want)
	}
}

// chunk is a chunk.
func chunk(kind byte, s string) string {
	return string([]byte{kind, byte(len(s))}) + s + "\xe7"
}

// head is what stands in the page of a head.
func head(t *testing.T, g uint64) string {
	t.Helper()
	f, e := frame.Pack([]byte{byte(g >> 56), byte(g >> 48), byte(g >> 40), byte(g >> 32), byte(g >> 24), byte(g >> 16), byte(g >> 8), byte(g)})
	told(t, "Pack", e, api.OK)
	return string(f)
}

// put has pages of a disk stand there, sure.
func put(t *testing.T, d *disk.Disk, at int, pages ...string) {
	t.Helper()
	for i, p := range pages {
		told(t, "Write", d.Write(at+i, []byte(p)), api.OK)
	}
	told(t, "Flush", d.Flush(), api.OK)
}

// long is n letters, of which none is the one ahead of it.
func long(n int) string {
	return strings.Repeat("abcdefghijklmnopqrstuvwxyz", n/26+1)[:n]
}

// tells holds what a log tells to the records and to how many bytes are left.
func tells(t *testing.T, l *wal.Log, left int, recs ...string) {
	t.Helper()
	got := l.Records()
	same := slices.EqualFunc(got, recs, func(a []byte, b string) bool { return string(a) == b })
	if !same || l.Left() != left {
		t.Errorf("the log tells %.60q, %d left, want %.60q, %d", got, l.Left(), recs, left)
	}
}

// op is a write of a page, or a flush.
type op struct {
	flush bool
	at    int
	page  string
}

var flush = op{flush: true}

// to writes a page.
func to(at int, page string) op { return op{at: at, page: page} }

// run does ops.
func run(t *testing.T, d *disk.Disk, ops []op) {
	t.Helper()
	for _, o := range ops {
		if o.flush {
			told(t, "Flush", d.Flush(), api.OK)
		} else {
			told(t, "Write", d.Write(o.at, []byte(o.page)), api.OK)
		}
	}
}

// sure is all that is sure of a disk.
func sure(d *disk.Disk) string {
	s := []byte{}
	for i := 0; ; i++ {
		b, e := d.Sure(i)
		if e != api.OK {
			return string(s)
		}
		s = append(s, b...)
	}
}

// behind is what is sure of a disk behind a crash.
func behind(d *disk.Disk, c api.Crash) string {
	f := d.Fork()
	f.Crash(c)
	return sure(f)
}

// alike: is the same sure of two disks, and do the same writes wait in the same order?
func alike(a, b *disk.Disk) bool {
	if a.Waits() != b.Waits() || sure(a) != sure(b) || behind(a, all) != behind(b, all) {
		return false
	}
	for k := range a.Waits() {
		keep := make([]bool, k+1)
		keep[k] = true
		if one := (api.Crash{Keep: keep, Torn: -1}); behind(a, one) != behind(b, one) {
			return false
		}
	}
	return true
}

// does holds a call to the writes and flushes that it does, one by one: at each the power goes once.
func does(t *testing.T, what string, d *disk.Disk, ready func(d *disk.Disk) func() api.Errno, ops ...op) {
	t.Helper()
	for k := range len(ops) + 2 {
		a, b := d.Fork(), d.Fork()
		call := ready(a)
		ready(b)
		told(t, "Cut", a.Cut(k), api.OK)
		e, want := call(), api.OK
		run(t, b, ops[:max(min(k-1, len(ops)), 0)])
		if k == 0 { // the power stays
			run(t, b, ops)
		} else if k <= len(ops) {
			want = api.ErrDown
		}
		if e != want || a.Down() != (want == api.ErrDown) {
			t.Errorf("%s with %d: %d, %v, want %d", what, k, e, a.Down(), want)
		}
		if !alike(a, b) {
			t.Errorf("%s with %d of %d does something else", what, k, len(ops))
		}
	}
}

// opened makes Open ready.
func opened(base, pages int) func(d *disk.Disk) func() api.Errno {
	return func(d *disk.Disk) func() api.Errno {
		return func() api.Errno {
			l, e := wal.Open(d, base, pages)
			if (l == nil) != (e != api.OK) {
				return -1
			}
			return e
		}
	}
}

// P7.1: the errors, in their order.
func TestOpenErrors(t *testing.T) {
	no := func(d *disk.Disk, base, pages int, want api.Errno) {
		t.Helper()
		if l, e := wal.Open(d, base, pages); l != nil || e != want {
			t.Errorf("Open(%d, %d) = %v, %d, want %d", base, pages, l, e, want)
		}
	}
	no(nil, 0, 4, api.ErrNil)
	no(nil, -1, 3, api.ErrNil)
	d := fresh(t, 9)
	for _, n := range far {
		no(d, n, 4, api.ErrArg)
		no(d, 0, n, api.ErrArg)
		no(d, n, n, api.ErrArg)
	}
	for base := range 12 {
		for pages := range 12 {
			if pages < 4 || base+pages > 9 {
				no(d, base, pages, api.ErrArg)
			} else {
				open(t, d.Fork(), base, pages)
			}
		}
	}
	if sure(d) != sure(fresh(t, 9)) || d.Waits() != 0 {
		t.Error("an error changed the disk")
	}
	told(t, "Cut", d.Cut(1), api.OK)
	no(d, 0, 4, api.ErrDown)
	no(d, 0, 4, api.ErrDown)
	no(d, -1, 3, api.ErrDown)
	no(new(disk.Disk), 0, 4, api.ErrArg)
	open(t, fresh(t, 512), 0, 512)
	open(t, fresh(t, 512), 508, 4)
}

// P7.1: a log that is new.
func TestOpenNew(t *testing.T) {
	d := fresh(t, 12)
	does(t, "Open of nothing", d, opened(0, 4), flush, to(0, head(t, 1)), flush)
	does(t, "Open further on", d, opened(3, 9), flush, to(3, head(t, 1)), flush)
	for i := range 12 {
		put(t, d, i, long(i+1))
	}
	put(t, d, 6, "") // which is not written, as it is empty
	does(t, "Open of anything", d, opened(3, 9), to(4, ""), to(5, ""), flush, to(3, head(t, 1)), flush)
	does(t, "Open of other halves", d, opened(1, 10), to(2, ""), to(3, ""), to(4, ""), to(5, ""), flush, to(1, head(t, 1)), flush)
	tells(t, open(t, d, 3, 9), 192)
	does(t, "Open again", d, opened(3, 9))
	tells(t, open(t, d, 3, 9), 192)
	// Example 1.
	d = fresh(t, 4)
	tells(t, open(t, d, 0, 4), 64)
	p, _ := d.Sure(0)
	if held, _, e := frame.One(p, 0); !bytes.Equal(held, []byte{0, 0, 0, 0, 0, 0, 0, 1}) || e != api.OK {
		t.Errorf("page 0 begins with %q, %d", held, e)
	}
	if !bytes.Equal(p[14:], make([]byte, 50)) {
		t.Error("page 0 goes on with others than 0")
	}
}

// P7.1: which heads count, and which half is read.
func TestHeads(t *testing.T) {
	of := func(n int) string {
		f, _ := frame.Pack(make([]byte, n))
		f[len(f)-1] = 1
		f, _ = frame.Pack(f[6:])
		return string(f)
	}
	spoilt := "\x00\x08\x01" + head(t, 5)[3:]
	a, b := head(t, 7), head(t, 8)
	for _, c := range []struct {
		first, second string
		used          int // 0: a new one
	}{
		{"", "", 0}, {head(t, 0), head(t, 0), 0}, {of(7), of(9), 0}, {of(1), of(16), 0},
		{spoilt, spoilt, 0}, {head(t, top+1), head(t, 1<<63), 0}, {head(t, 1<<64-1), head(t, 1<<63+5), 0},
		{"\x00" + a, "", 0}, {a[:13], "", 0},
		{a, "", 1}, {"", a, 2}, {a, b, 2}, {b, a, 1}, {a, a, 1}, {head(t, top), head(t, top), 1},
		{head(t, top), head(t, top-1), 1}, {head(t, 1), head(t, top), 2}, {head(t, top+1), head(t, 1), 2},
		{head(t, 2), head(t, 1<<63+9), 1}, {head(t, 1), head(t, 1<<32), 2}, {head(t, 255), head(t, 256), 2},
		{a + long(50), b + long(50), 2}, {of(8), "", 1}, {of(7), a, 2}, {a, of(9), 1},
	} {
		d := fresh(t, 4)
		put(t, d, 0, c.first, chunk(1, "one"), c.second, chunk(1, "two"))
		l := open(t, d, 0, 4)
		switch c.used {
		case 0:
			tells(t, l, 64)
		case 1:
			tells(t, l, 58, "one")
		case 2:
			tells(t, l, 58, "two")
		}
	}
}

// in is a disk with a log of which the second half is read, with some pages as its space.
func in(t *testing.T, pages ...string) *disk.Disk {
	t.Helper()
	n := len(pages) + 1
	d := fresh(t, 2*n+2)
	put(t, d, 1, head(t, 5), chunk(1, "older"))
	put(t, d, 1+n, slices.Concat([]string{head(t, 6)}, pages)...)
	put(t, d, 2*n+1, "not the log's")
	return d
}

// P7.1: what is a record.
func TestRead(t *testing.T) {
	w := func(s string) string { return chunk(1, s) }
	full := long(61)
	for _, c := range []struct {
		pages []string
		end   int
		recs  string // with a space between each two
	}{
		{[]string{"", ""}, 0, ""},
		{[]string{w("a"), ""}, 4, "a"},
		{[]string{w("a") + w("bb") + w("a"), ""}, 13, "a bb a"},
		{[]string{w("a") + w("") + w("b"), ""}, 4, "a"},
		{[]string{"\x00" + w("a"), w("b")}, 0, ""},
		{[]string{chunk(0, "a"), w("b")}, 0, ""},
		{[]string{chunk(5, "a"), w("b")}, 0, ""},
		{[]string{chunk(255, "a"), w("b")}, 0, ""},
		{[]string{chunk(3, "a"), ""}, 0, ""},
		{[]string{chunk(4, "a") + w("b"), ""}, 0, ""},
		{[]string{w(full), w("b")}, 68, full + " b"},
		{[]string{w(full)[:63] + "\xe6", w("b")}, 0, ""},
		{[]string{"\x01\x3e" + long(62), "\xe7"}, 0, ""},      // no chunk goes beyond its page
		{[]string{"\x01\xff" + full + "\xe7", w("b")}, 0, ""}, // nor has one more than it can have
		{[]string{"\x01\x05abc\xe7", w("b")}, 0, ""},
		{[]string{w(long(57)) + w("b"), w("c")}, 68, long(57) + " b c"},              // 4 bytes are left
		{[]string{w(long(58)) + w("b")[:3], w("c")}, 68, long(58) + " c"},            // 3 are
		{[]string{w(long(59)) + "\xff\xff", w("c")}, 68, long(59) + " c"},            // whatever stands there
		{[]string{w(long(59)) + "\xff\xff", chunk(4, "c")}, 62, long(59)},            //
		{[]string{w(long(50)) + w("b"), w("c")}, 57, long(50) + " b"},                // a chunk could begin here
		{[]string{chunk(2, long(61)), chunk(4, "z") + w("y")}, 72, long(61) + "z y"}, //
		{[]string{chunk(2, "a") + chunk(3, "b") + chunk(3, "c") + chunk(4, "d") + w("e"), ""}, 20, "abcd e"},
		{[]string{chunk(2, "a") + chunk(4, "b") + chunk(2, "c") + chunk(4, "d"), ""}, 16, "ab cd"},
		{[]string{w("a") + chunk(2, "b") + chunk(3, "c"), chunk(4, "d")}, 4, "a"},
		{[]string{w("a") + chunk(2, "b") + w("c"), ""}, 4, "a"},
		{[]string{w("a") + chunk(2, "b") + chunk(5, "c") + chunk(4, "d"), ""}, 4, "a"},
		{[]string{w("a") + chunk(2, "b") + chunk(0, "c") + chunk(4, "d"), ""}, 4, "a"},
		{[]string{w("a") + chunk(2, "b") + chunk(3, "") + chunk(4, "d"), ""}, 4, "a"},
		{[]string{w("a") + chunk(2, "b") + chunk(2, "c") + chunk(4, "d"), ""}, 4, "a"},
		{[]string{w("a") + chunk(2, "b") + chunk(3, "c") + chunk(1, "d"), ""}, 4, "a"},
		{[]string{w("a") + chunk(2, long(57)), chunk(3, full)}, 4, "a"},
		{[]string{w(full), w(full)}, 128, full + " " + full},
		{[]string{w(full), w(long(60))}, 127, full + " " + long(60)},
		{[]string{w("a"), w("b")}, 4, "a"},
	} {
		want := strings.Fields(c.recs)
		d := in(t, c.pages...)
		tells(t, open(t, d, 1, 6), 128-c.end, want...)
		tells(t, open(t, d, 1, 7), 128-c.end, want...)
	}
}

// P7.1: a record has at most MaxPay bytes.
func TestReadLongest(t *testing.T) {
	for _, c := range []struct {
		n    int
		want bool
	}{{1999, true}, {2000, true}, {2001, false}, {2013, false}} {
		pages := []string{chunk(1, "a") + chunk(2, long(57))}
		for n := 57; n < c.n; {
			m := min(61, c.n-n)
			k := byte(3)
			if n += m; n == c.n {
				k = 4
			}
			pages = append(pages, chunk(k, strings.Repeat("x", m)))
		}
		l := open(t, in(t, pages...), 1, 2*len(pages)+2)
		if recs := l.Records(); (len(recs) == 2) != c.want || len(recs) == 2 && len(recs[1]) != c.n {
			t.Errorf("%d records, of %d bytes", len(recs), c.n)
		}
	}
}

// P7.1: what stands behind the end is written as 0, and what is 0 is not.
func TestOpenRids(t *testing.T) {
	w := chunk(1, "abc")
	full := chunk(1, long(61))
	for _, c := range []struct {
		pages []string
		ops   []op
	}{
		{[]string{w, "", ""}, nil},
		{[]string{"", "", ""}, nil},
		{[]string{full, full, full}, nil},
		{[]string{w + "x", "", ""}, []op{to(6, w), flush}},
		{[]string{w + strings.Repeat("\x00", 57) + "x", "", ""}, []op{to(6, w), flush}},
		{[]string{w, "", "x"}, []op{to(8, ""), flush}},
		{[]string{w, w, w}, []op{to(7, ""), to(8, ""), flush}},
		{[]string{w + "x", "x", ""}, []op{to(6, w), to(7, ""), flush}},
		{[]string{w + "x", "", full}, []op{to(6, w), to(8, ""), flush}},
		{[]string{"x", "", "x"}, []op{to(6, ""), to(8, ""), flush}},
		{[]string{full, "x", "\x00x"}, []op{to(7, ""), to(8, ""), flush}},
		{[]string{full, w + chunk(2, "d"), "\x00x"}, []op{to(7, w), to(8, ""), flush}},
		{[]string{chunk(1, long(59)) + "zz", "", ""}, []op{to(6, chunk(1, long(59))), flush}},
		{[]string{chunk(1, long(59)) + "zz", w, ""}, nil}, // these are ahead of the end
		{[]string{full, full, chunk(1, long(60)) + "x"}, []op{to(8, chunk(1, long(60))), flush}},
	} {
		does(t, "Open", in(t, c.pages...), opened(1, 8), c.ops...)
		does(t, "Open", in(t, c.pages...), opened(1, 9), c.ops...)
	}
}

// with is a disk of so many pages with a log that has records.
func with(t *testing.T, pages int, recs ...string) (*disk.Disk, *wal.Log) {
	t.Helper()
	d := fresh(t, pages)
	l := open(t, d, 0, pages)
	for _, r := range recs {
		told(t, "Append", l.Append([]byte(r)), api.OK)
	}
	return d, l
}

// appends makes Append ready.
func appends(pages int, rec string) func(d *disk.Disk) func() api.Errno {
	return func(d *disk.Disk) func() api.Errno {
		l, e := wal.Open(d, 0, pages)
		if e != api.OK {
			return nil
		}
		return func() api.Errno { return l.Append([]byte(rec)) }
	}
}

// P7.2: which pages are written, and how.
func TestAppend(t *testing.T) {
	full := long(61)
	for _, c := range []struct {
		recs []string
		rec  string
		ops  []op
	}{
		{nil, "a", []op{to(1, chunk(1, "a"))}},
		{nil, full, []op{to(1, chunk(1, full))}},
		{nil, full + "z", []op{to(1, chunk(2, full)), to(2, chunk(4, "z"))}},
		{nil, full + full, []op{to(1, chunk(2, full)), to(2, chunk(4, full))}},
		{nil, full + full + "z", []op{to(1, chunk(2, full)), to(2, chunk(3, full)), to(3, chunk(4, "z"))}},
		{nil, full + full + full + "z", []op{to(1, chunk(2, full)), to(2, chunk(3, full)), to(3, chunk(3, full)), to(4, chunk(4, "z"))}},
		{[]string{"a"}, "b", []op{to(1, chunk(1, "a")+chunk(1, "b"))}},
		{[]string{"a", full}, "b", []op{to(2, chunk(4, long(61)[57:])+chunk(1, "b"))}},
		{[]string{"a"}, full, []op{to(1, chunk(1, "a")+chunk(2, full[:57])), to(2, chunk(4, full[57:]))}},
		{[]string{long(57)}, "b", []op{to(1, chunk(1, long(57))+chunk(1, "b"))}},
		{[]string{long(57)}, "bc", []op{to(1, chunk(1, long(57))+chunk(2, "b")), to(2, chunk(4, "c"))}},
		{[]string{long(58)}, "b", []op{to(2, chunk(1, "b"))}},
		{[]string{long(59)}, "b", []op{to(2, chunk(1, "b"))}},
		{[]string{long(60)}, "b", []op{to(2, chunk(1, "b"))}},
		{[]string{long(60)}, full, []op{to(2, chunk(1, full))}},
		{[]string{full}, "b", []op{to(2, chunk(1, "b"))}},
		{[]string{full, full, full}, full, []op{to(4, chunk(1, full))}},
		{[]string{"\x00"}, "\xe7\x00\x01", []op{to(1, chunk(1, "\x00")+chunk(1, "\xe7\x00\x01"))}},
	} {
		d, l := with(t, 10, c.recs...)
		told(t, "Force", l.Force(), api.OK)
		does(t, "Append", d, appends(10, c.rec), c.ops...)
		told(t, "Append", l.Append([]byte(c.rec)), api.OK)
		want := append(slices.Clone(c.recs), c.rec)
		tells(t, l, l.Left(), want...)
		tells(t, open(t, d, 0, 10), l.Left(), want...)
		told(t, "Crash", d.Crash(nothing), api.OK)
		tells(t, open(t, d, 0, 10), 256-size(c.recs...), c.recs...)
	}
}

// size is where records end that are laid from a page's beginning on, reckoned letter by letter.
func size(recs ...string) int {
	at := 0
	for _, r := range recs {
		if at%64 > 60 {
			at += 64 - at%64
		}
		at += 3
		for i := range len(r) {
			if at%64 == 0 && i > 0 {
				at += 3
			}
			at++
		}
	}
	return at
}

// P7.2: the errors, in their order; none changes anything.
func TestAppendErrors(t *testing.T) {
	var none *wal.Log
	for _, rec := range [][]byte{nil, {}, []byte("a"), make([]byte, 2001)} {
		told(t, "Append of nil", none.Append(rec), api.ErrNil)
		told(t, "Append of another one", new(wal.Log).Append(rec), api.ErrNil)
	}
	d, l := with(t, 9, "a")
	told(t, "Append", l.Append(nil), api.ErrArg)
	told(t, "Append", l.Append([]byte{}), api.ErrArg)
	told(t, "Append", l.Append(make([]byte, 2001)), api.ErrLimit)
	told(t, "Append", l.Append(make([]byte, 1<<16)), api.ErrLimit)
	told(t, "Append", l.Append(make([]byte, 2000)), api.ErrFull)
	told(t, "Append", l.Append(make([]byte, 57+61+61+1)), api.ErrFull)
	if d.Waits() != 1 {
		t.Error("an error wrote")
	}
	tells(t, l, 188, "a")
	told(t, "Cut", d.Cut(1), api.OK)
	told(t, "Append", l.Append([]byte("b")), api.ErrDown)
	told(t, "Append", l.Append(nil), api.ErrDown)
	told(t, "Append", l.Append(make([]byte, 2001)), api.ErrDown)
	tells(t, l, 188, "a")
	told(t, "Crash", d.Crash(nothing), api.OK)
	told(t, "Cut", d.Cut(1), api.OK)
	told(t, "Flush", d.Flush(), api.ErrDown)
	told(t, "Append", l.Append([]byte("b")), api.ErrStale)
	told(t, "Append", l.Append(nil), api.ErrStale)
	told(t, "Append", l.Append(make([]byte, 2001)), api.ErrStale)
	told(t, "Force", l.Force(), api.ErrStale)
	told(t, "Reset", l.Reset(nil), api.ErrStale)
	tells(t, l, 188, "a")
}

// P7.2: an Append that is broken off changes nothing of what the log tells.
func TestAppendBroken(t *testing.T) {
	for cut := 1; cut <= 3; cut++ {
		d, l := with(t, 10, "a")
		told(t, "Cut", d.Cut(cut), api.OK)
		room := l.Room()
		told(t, "Append", l.Append([]byte(long(150))), api.ErrDown)
		tells(t, l, 252, "a")
		if l.Room() != room {
			t.Errorf("Room is %d now, was %d", l.Room(), room)
		}
	}
}

// P7.2: what someone else wrote plays no part.
func TestSomeoneElse(t *testing.T) {
	d, l := with(t, 8, "a", "b")
	told(t, "Force", l.Force(), api.OK)
	put(t, d, 1, long(64), long(64), long(64))
	told(t, "Append", l.Append([]byte(long(60))), api.OK)
	tells(t, l, 192-8-6-60, "a", "b", long(60))
	run(t, d, []op{flush})
	want := chunk(1, "a") + chunk(1, "b") + chunk(2, long(60)[:53])
	if p, _ := d.Sure(1); string(p) != want {
		t.Errorf("page 1 is %q, want %q", p, want)
	}
	want = chunk(4, long(60)[53:])
	if p, _ := d.Sure(2); string(p) != want+strings.Repeat("\x00", 64-len(want)) {
		t.Errorf("page 2 is %q, want %q", p, want)
	}
	if p, _ := d.Sure(3); string(p) != long(64) {
		t.Errorf("page 3 is %q", p)
	}
}

// P7.2: Force is a flush.
func TestForce(t *testing.T) {
	var none *wal.Log
	told(t, "Force of nil", none.Force(), api.ErrNil)
	told(t, "Force of another one", new(wal.Log).Force(), api.ErrNil)
	d, l := with(t, 8, "a", "b")
	told(t, "Force", l.Force(), api.OK)
	told(t, "Append", l.Append([]byte("c")), api.OK)
	f := d.Fork()
	told(t, "Crash", f.Crash(nothing), api.OK)
	tells(t, open(t, f, 0, 8), 184, "a", "b")
	told(t, "Cut", d.Cut(1), api.OK)
	told(t, "Force", l.Force(), api.ErrDown)
	told(t, "Force", l.Force(), api.ErrDown)
	told(t, "Crash", d.Crash(nothing), api.OK)
	told(t, "Force", l.Force(), api.ErrStale)
	l = open(t, d, 0, 8)
	tells(t, l, 184, "a", "b")
	does(t, "Force", d, func(d *disk.Disk) func() api.Errno {
		l := open(t, d, 0, 8)
		told(t, "Append", l.Append([]byte("c")), api.OK)
		return l.Force
	}, flush)
	does(t, "Force of nothing", d, func(d *disk.Disk) func() api.Errno { return open(t, d, 0, 8).Force }, flush)
}

// rows are records.
func rows(recs ...string) [][]byte {
	l := [][]byte{}
	for _, r := range recs {
		l = append(l, []byte(r))
	}
	return l
}

// resets makes Reset ready.
func resets(base, pages int, recs ...string) func(d *disk.Disk) func() api.Errno {
	return func(d *disk.Disk) func() api.Errno {
		l, e := wal.Open(d, base, pages)
		if e != api.OK {
			return nil
		}
		return func() api.Errno { return l.Reset(rows(recs...)) }
	}
}

// P7.3: what is written, flush by flush.
func TestReset(t *testing.T) {
	full, w := long(61), chunk(1, "b")
	d, l := with(t, 9, "a")
	told(t, "Force", l.Force(), api.OK)
	does(t, "Reset of nothing", d, resets(0, 9), flush, to(4, head(t, 2)), flush)
	does(t, "Reset of one", d, resets(0, 9, "b"), to(5, w), flush, to(4, head(t, 2)), flush)
	put(t, d, 5, w, full, w, "not the log's")
	does(t, "Reset of one", d, resets(0, 9, "b"), to(6, ""), to(7, ""), flush, to(4, head(t, 2)), flush)
	put(t, d, 4, "x", w+"x", "")
	does(t, "Reset of one", d, resets(0, 9, "b"), to(4, ""), flush, to(5, w), to(7, ""), flush, to(4, head(t, 2)), flush)
	put(t, d, 4, head(t, 1), chunk(1, long(59))+"zz") // the first one is used, as they are alike
	does(t, "Reset with a gap", d, resets(0, 9, long(59), full+"z"), to(4, ""), flush,
		to(5, chunk(1, long(59))), to(6, chunk(2, full)), to(7, chunk(4, "z")), flush, to(4, head(t, 2)), flush)
	l = open(t, d, 0, 9)
	told(t, "Reset", l.Reset(rows(long(59), full+"z")), api.OK)
	tells(t, l, 60, long(59), full+"z")
	does(t, "Reset back", d, resets(0, 9, "a", "b"), to(0, ""), flush, to(1, chunk(1, "a")+w), flush, to(0, head(t, 3)), flush)
	tells(t, open(t, d, 0, 9), 60, long(59), full+"z")
	told(t, "Append", l.Append([]byte("c")), api.OK)
	told(t, "Reset", l.Reset(l.Records()[1:]), api.OK)
	tells(t, l, 192-72, full+"z", "c")
	told(t, "Append", l.Append([]byte("d")), api.OK)
	run(t, d, []op{flush})
	tells(t, open(t, d, 0, 9), 192-76, full+"z", "c", "d")
	told(t, "Reset", l.Reset(nil), api.OK)
	tells(t, l, 192)
	tells(t, open(t, d, 0, 9), 192)
	if p, _ := d.Sure(8); string(p[:13]) != "not the log's" {
		t.Errorf("page 8 is %q", p)
	}
}

// P7.3: the errors, in their order; none changes anything.
func TestResetErrors(t *testing.T) {
	var none *wal.Log
	told(t, "Reset of nil", none.Reset(rows("", long(2001))), api.ErrNil)
	told(t, "Reset of another one", new(wal.Log).Reset(nil), api.ErrNil)
	d := fresh(t, 8)
	put(t, d, 0, head(t, top), chunk(1, "a"))
	l := open(t, d, 0, 8)
	big, full := long(2001), long(61)
	for _, c := range []struct {
		recs []string
		want api.Errno
	}{
		{[]string{"a", ""}, api.ErrArg},
		{[]string{"", big}, api.ErrArg},
		{[]string{big, ""}, api.ErrLimit},
		{[]string{full, full, full, full, ""}, api.ErrArg},
		{[]string{full, full, full, full, big}, api.ErrLimit},
		{[]string{full, full, full, "z"}, api.ErrFull}, // ahead of what the generation is
		{[]string{long(58), long(58), long(58), "z"}, api.ErrFull},
		{[]string{full + full + full + "z"}, api.ErrFull},
		{[]string{full, full, full}, api.ErrLimit},
		{nil, api.ErrLimit},
	} {
		told(t, "Reset", l.Reset(rows(c.recs...)), c.want)
		tells(t, l, 188, "a")
	}
	told(t, "Append", l.Append([]byte("b")), api.OK)
	run(t, d, []op{flush})
	put(t, d, 0, head(t, top-1))
	f := d.Fork()
	l = open(t, f, 0, 8)
	told(t, "Reset", l.Reset(rows(full, full, full)), api.OK)
	tells(t, l, 0, full, full, full)
	told(t, "Reset", l.Reset(nil), api.ErrLimit)
	told(t, "Append", l.Append([]byte("b")), api.ErrFull)
	l = open(t, d, 0, 8)
	told(t, "Cut", d.Cut(1), api.OK)
	told(t, "Reset", l.Reset(rows("c")), api.ErrDown)
	told(t, "Reset", l.Reset(rows("", big)), api.ErrDown)
	tells(t, l, 184, "a", "b")
	told(t, "Crash", d.Crash(nothing), api.OK)
	told(t, "Cut", d.Cut(1), api.OK)
	told(t, "Flush", d.Flush(), api.ErrDown)
	told(t, "Reset", l.Reset(rows("", big)), api.ErrStale)
}

// P7.3: two logs of one disk, and one log that is opened twice.
func TestTwo(t *testing.T) {
	d := fresh(t, 20)
	a, b := open(t, d, 0, 10), open(t, d, 10, 10)
	told(t, "Append", a.Append([]byte("a")), api.OK)
	told(t, "Append", b.Append([]byte("b")), api.OK)
	told(t, "Reset", a.Reset(rows("c")), api.OK)
	tells(t, open(t, d, 0, 10), 252, "c")
	tells(t, open(t, d, 10, 10), 252, "b")
	other := open(t, d, 0, 10)
	told(t, "Append", other.Append([]byte("d")), api.OK)
	tells(t, a, 252, "c")
	told(t, "Reset", a.Reset(rows("e")), api.OK)
	told(t, "Reset", other.Reset(rows("f")), api.OK) // into the half that the one of them uses
	tells(t, a, 252, "e")
	tells(t, other, 252, "f")
}

// P7.4: what fits, fits; one more byte does not.
func TestRoom(t *testing.T) {
	var none *wal.Log
	if none.Records() != nil || none.Room() != 0 || none.Left() != 0 {
		t.Error("nil tells something")
	}
	if l := new(wal.Log); l.Records() != nil || l.Room() != 0 || l.Left() != 0 {
		t.Error("one that no call made tells something")
	}
	for _, pages := range []int{4, 6, 8, 68, 70, 72, 100} {
		for n := range 130 {
			if n > 0 && (pages == 4 && n > 61 || pages == 6 && n > 122) {
				continue
			}
			d, l := with(t, pages)
			if n > 0 {
				told(t, "Append", l.Append([]byte(long(n))), api.OK)
			}
			room, left := l.Room(), l.Left()
			at := 0
			if n > 0 {
				at = size(long(n))
			}
			if want := (pages/2-1)*64 - at; left != want {
				t.Errorf("%d pages, a record of %d: Left = %d, want %d", pages, n, left, want)
			}
			want := 0
			for m := 1; m <= 2000; m++ {
				recs := []string{long(n), long(m)}
				if size(recs[min(1, 1-min(n, 1)):]...) <= (pages/2-1)*64 {
					want = m
				}
			}
			if room != want {
				t.Errorf("%d pages, a record of %d: Room = %d, want %d", pages, n, room, want)
			}
			if room < 2000 {
				told(t, "Append of more", l.Append(make([]byte, room+1)), api.ErrFull)
			}
			if room > 0 {
				told(t, "Append of as much", l.Append([]byte(long(room))), api.OK)
				tells(t, open(t, d, 0, pages), l.Left(), strings.Fields(long(n)+" "+long(room))...)
			}
		}
	}
}

// P3: what is handed in stays and is not kept, what is answered is new.
func TestMemory(t *testing.T) {
	d, l := with(t, 10)
	rec := append(make([]byte, 0, 64), "abc"...)
	spare := rec[3:64]
	told(t, "Append", l.Append(rec), api.OK)
	if string(rec) != "abc" || !bytes.Equal(spare, make([]byte, 61)) {
		t.Errorf("what was handed in is %q, %q", rec, spare)
	}
	rec[0] = 'x'
	tells(t, l, 250, "abc")
	l.Records()[0][0] = 'x'
	tells(t, l, 250, "abc")
	got := l.Records()
	_ = append(got[0], "spoilt"...)
	told(t, "Append", l.Append([]byte("d")), api.OK)
	if len(got) != 1 {
		t.Error("an answer changed")
	}
	recs := append(make([][]byte, 0, 4), []byte("eee"), append(make([]byte, 0, 8), "ff"...))
	told(t, "Reset", l.Reset(recs), api.OK)
	if len(recs) != 2 || string(recs[0]) != "eee" || string(recs[1]) != "ff" || recs[:3][2] != nil || recs[1][:3][2] != 0 {
		t.Errorf("what was handed in is %q", recs)
	}
	recs[0][0], recs[1] = 'x', nil
	tells(t, l, 245, "eee", "ff")
	told(t, "Append", l.Append([]byte("g")), api.OK)
	tells(t, open(t, d, 0, 10), 241, "eee", "ff", "g")
	// A log that was opened keeps nothing that a disk changes.
	put(t, d, 5, "", "", "")
	tells(t, l, 241, "eee", "ff", "g")
}

// crash is a crash of any kind.
func crash(r *rand.Rand, waits int) api.Crash {
	c := api.Crash{Torn: r.Intn(waits+2) - 1, At: r.Intn(70) - 2}
	for range r.Intn(waits + 2) {
		c.Keep = append(c.Keep, r.Intn(2) == 0)
	}
	return c
}

// reopen opens a log whose disk crashes while it is opened, too.
func reopen(t *testing.T, r *rand.Rand, d *disk.Disk, pages int) *wal.Log {
	t.Helper()
	for range r.Intn(4) {
		told(t, "Cut", d.Cut(1+r.Intn(6)), api.OK)
		if _, e := wal.Open(d, 1, pages); e != api.OK && e != api.ErrDown {
			t.Fatal("Open", e)
		}
		told(t, "Crash", d.Crash(crash(r, d.Waits())), api.OK)
	}
	return open(t, d, 1, pages)
}

// P7.5, P7.6 (M2): behind crashes a beginning of what was appended, with all that was forced; of a Reset all or nothing.
func TestLasts(t *testing.T) {
	r := rand.New(rand.NewSource(75))
	for range 1500 {
		pages := 4 + r.Intn(10)
		d := fresh(t, pages+2)
		l := reopen(t, r, d, pages)
		sure, recs := 0, []string{} // how many of the records are sure
		for range 60 {
			var other []string // what else may be told behind a crash
			reset := false
			if r.Intn(3) == 0 {
				told(t, "Cut", d.Cut(1+r.Intn(8)), api.OK)
			}
			switch r.Intn(8) {
			case 0:
				if e := l.Force(); e == api.OK {
					sure = len(recs)
				}
			case 1:
				reset = true
				for range r.Intn(4) {
					other = append(other, long(1+r.Intn(90)))
				}
				if e := l.Reset(rows(other...)); e == api.OK {
					recs, sure, reset = other, len(other), false
				} else if e == api.ErrFull {
					reset = false
				}
			default:
				rec := []byte(long(1 + r.Intn(1+r.Intn(200))))
				r.Read(rec)
				e := l.Append(rec)
				if e == api.OK {
					recs = append(recs, string(rec))
				} else if e == api.ErrDown {
					other = append(slices.Clone(recs), string(rec))
				}
			}
			tells(t, l, l.Left(), recs...)
			if !d.Down() && r.Intn(6) > 0 {
				continue
			}
			told(t, "Crash", d.Crash(crash(r, d.Waits())), api.OK)
			if reset && r.Intn(2) == 0 { // the Reset itself is told of once it is opened
				d.Flush()
			}
			l = reopen(t, r, d, pages)
			var got []string
			for _, rec := range l.Records() {
				got = append(got, string(rec))
			}
			begins := func(of []string) bool { return len(got) <= len(of) && slices.Equal(got, of[:len(got)]) }
			if !(begins(recs) && len(got) >= sure) && !(reset && slices.Equal(got, other)) && !(!reset && other != nil && begins(other) && len(got) >= sure) {
				t.Fatalf("%d records are told, of %d, of which %d are sure", len(got), len(recs), sure)
			}
			recs, sure = got, len(got)
			tells(t, l, (pages/2-1)*64-size(recs...), recs...)
		}
	}
}

// P7.2, P7.3: each page of the disk, against a model of it.
func TestModel(t *testing.T) {
	r := rand.New(rand.NewSource(72))
	for range 300 {
		pages := 4 + r.Intn(16)
		d := fresh(t, pages)
		l := open(t, d, 0, pages)
		used, g := 0, uint64(1)
		halves := [2][]string{}
		room := (pages/2 - 1) * 64
		for range 30 {
			rec := long(1 + r.Intn(1+r.Intn(300)))
			recs, e := halves[used], api.OK
			if r.Intn(6) == 0 {
				recs = recs[r.Intn(len(recs)+1):]
				e = l.Reset(rows(recs...))
				used, g = 1-used, g+1
			} else if e = l.Append([]byte(rec)); size(append(slices.Clone(recs), rec)...) <= room {
				recs = append(slices.Clone(recs), rec)
			} else if e == api.ErrFull {
				e = api.OK
			}
			told(t, "a call", e, api.OK)
			halves[used] = recs
			tells(t, l, room-size(recs...), recs...)
			for half := range 2 {
				want := strings.Repeat("\x00", 64)
				if half == used {
					want = head(t, g) + want[14:]
				} else if g > 1 {
					want = head(t, g-1) + want[14:]
				}
				want += laid(room, halves[half])
				at := half * (pages / 2)
				for i := range pages / 2 {
					if p, _ := d.Read(at + i); string(p) != want[64*i:64*i+64] {
						t.Fatalf("page %d is %q, want %q", at+i, p, want[64*i:64*i+64])
					}
				}
			}
		}
	}
}

// laid is a space of so many bytes with records.
func laid(room int, recs []string) string {
	s := ""
	for _, r := range recs {
		for at := 0; at < len(r); {
			if left := 64 - len(s)%64; left < 4 {
				s += strings.Repeat("\x00", left)
			}
			n := min(len(r)-at, 61-len(s)%64)
			kind := byte(3)
			switch {
			case n == len(r):
				kind = 1
			case at == 0:
				kind = 2
			case at+n == len(r):
				kind = 4
			}
			s += chunk(kind, r[at:at+n])
			at += n
		}
	}
	return s + strings.Repeat("\x00", room-len(s))
}
