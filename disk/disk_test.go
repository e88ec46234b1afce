package disk_test

import (
	"bytes"
	"math"
	"math/rand"
	"slices"
	"testing"

	"pigeonhole/api"
	"pigeonhole/disk"
)

// nothing is a crash by which nothing outlives that was not flushed.
var nothing = api.Crash{Torn: -1}

// far are numbers that are far out of each range.
var far = []int{-1, -2, 1 << 32, math.MaxInt, math.MaxInt - 63, math.MinInt}

// fresh is a new disk.
func fresh(t *testing.T, pages int) *disk.Disk {
	t.Helper()
	d, e := disk.New(pages)
	if d == nil || e != api.OK {
		t.Fatal("New", pages, e)
	}
	return d
}

// whole is b as a page.
func whole(b string) []byte { return append([]byte(b), make([]byte, 64-len(b))...) }

// full is a page of one letter.
func full(b byte) string { return string(bytes.Repeat([]byte{b}, 64)) }

// write has a disk write a page.
func write(t *testing.T, d *disk.Disk, i int, b string, want api.Errno) {
	t.Helper()
	if e := d.Write(i, []byte(b)); e != want {
		t.Errorf("Write(%d, %.20q) = %d, want %d", i, b, e, want)
	}
}

// told holds what a call told to what it is to tell.
func told(t *testing.T, what string, e, want api.Errno) {
	t.Helper()
	if e != want {
		t.Errorf("%s = %d, want %d", what, e, want)
	}
}

// page holds what a page of a disk that has power reads as, and what is sure of it.
func page(t *testing.T, d *disk.Disk, i int, reads, sure string) {
	t.Helper()
	if b, e := d.Read(i); !bytes.Equal(b, whole(reads)) || e != api.OK {
		t.Errorf("Read(%d) = %.20q, %d, want %.20q", i, b, e, reads)
	}
	if b, e := d.Sure(i); !bytes.Equal(b, whole(sure)) || e != api.OK {
		t.Errorf("Sure(%d) = %.20q, %d, want %.20q", i, b, e, sure)
	}
}

// stands holds whether a disk is down, its age, and how many writes wait.
func stands(t *testing.T, d *disk.Disk, down bool, age, waits int) {
	t.Helper()
	if d.Down() != down || d.Age() != age || d.Waits() != waits {
		t.Errorf("down %v, age %d, %d wait; want %v, %d, %d", d.Down(), d.Age(), d.Waits(), down, age, waits)
	}
}

// no holds a call that told bytes to an error, and no bytes.
func no(t *testing.T, what string, b []byte, e, want api.Errno) {
	t.Helper()
	if len(b) != 0 || e != want {
		t.Errorf("%s = %.20q, %d, want %d", what, b, e, want)
	}
}

// P6.1, New
func TestNew(t *testing.T) {
	for _, pages := range []int{1, 2, 40, 360, 511, 512} {
		d := fresh(t, pages)
		stands(t, d, false, 0, 0)
		for i := range pages {
			page(t, d, i, "", "")
		}
		for _, i := range append([]int{pages, pages + 1}, far...) {
			b, e := d.Read(i)
			no(t, "Read", b, e, api.ErrArg)
			b, e = d.Sure(i)
			no(t, "Sure", b, e, api.ErrArg)
			write(t, d, i, "a", api.ErrArg)
			write(t, d, i, full('a')+"b", api.ErrArg) // ahead of ErrLimit
		}
		stands(t, d, false, 0, 0)
	}
	for _, pages := range append([]int{0, 513, 514}, far...) {
		if d, e := disk.New(pages); d != nil || e != api.ErrArg {
			t.Errorf("New(%d) = %v, %d", pages, d, e)
		}
	}
}

// P6.1, Write, Flush, Read, Sure
func TestWrite(t *testing.T) {
	d := fresh(t, 3)
	write(t, d, 1, "abc", api.OK)
	stands(t, d, false, 0, 1)
	page(t, d, 1, "abc", "")
	write(t, d, 1, full('x'), api.OK)
	page(t, d, 1, full('x'), "")
	write(t, d, 2, full('y'), api.OK)
	write(t, d, 1, "d", api.OK) // with bytes 0 behind it, instead of what stood there
	page(t, d, 1, "d", "")
	stands(t, d, false, 0, 4)
	page(t, d, 0, "", "")
	told(t, "Flush", d.Flush(), api.OK)
	stands(t, d, false, 0, 0)
	page(t, d, 0, "", "")
	page(t, d, 1, "d", "d")
	page(t, d, 2, full('y'), full('y'))
	told(t, "Flush of nothing", d.Flush(), api.OK)
	write(t, d, 1, "", api.OK)
	page(t, d, 1, "", "d")
	write(t, d, 0, full('z')+"z", api.ErrLimit)
	write(t, d, 0, string(make([]byte, 1<<16)), api.ErrLimit)
	stands(t, d, false, 0, 1)
	page(t, d, 0, "", "")
	told(t, "Write of nil", d.Write(2, nil), api.OK)
	told(t, "Flush", d.Flush(), api.OK)
	for i := range 3 {
		page(t, d, i, "", "")
	}
}

// P6.2, Cut: which of the Writes and Flushes is not done.
func TestCut(t *testing.T) {
	for n := 1; n <= 6; n++ {
		d := fresh(t, 2)
		told(t, "Cut", d.Cut(n), api.OK)
		letters := "abcdef"
		flushed := 0
		for k := 1; k <= 6; k++ {
			want := api.OK
			if k >= n {
				want = api.ErrDown
			}
			// What is not OK, or no Write and no Flush, does not count.
			if k < n {
				write(t, d, 2, "x", api.ErrArg)
				write(t, d, 0, full('x')+"x", api.ErrLimit)
				told(t, "Cut", d.Cut(-1), api.ErrArg)
				d.Read(0)
				d.Sure(0)
				d.Fork()
			}
			if k%3 == 0 {
				told(t, "Flush", d.Flush(), want)
				if k < n {
					flushed = k
				}
			} else {
				write(t, d, 0, letters[k-1:k], want)
			}
			if d.Down() != (k >= n) {
				t.Fatal("the power goes elsewhere", n, k)
			}
		}
		waits, sure := n-1-flushed, ""
		if flushed > 0 {
			sure = "b" // of the first and the second one
		}
		stands(t, d, true, 0, waits)
		if b, e := d.Sure(0); !bytes.Equal(b, whole(sure)) || e != api.OK {
			t.Errorf("Sure of page 0 = %.5q, %d, want %q", b, e, sure)
		}
		told(t, "Crash", d.Crash(nothing), api.OK)
		page(t, d, 0, sure, sure)
	}
}

// P6.2: a disk that is down.
func TestDown(t *testing.T) {
	d := fresh(t, 2)
	write(t, d, 0, "a", api.OK)
	told(t, "Cut", d.Cut(1), api.OK)
	stands(t, d, false, 0, 1)
	write(t, d, 1, "b", api.ErrDown)
	for range 3 {
		stands(t, d, true, 0, 1)
		for _, i := range append([]int{0, 1, 2}, far...) {
			write(t, d, i, "c", api.ErrDown)
			write(t, d, i, full('c')+"c", api.ErrDown)
			b, e := d.Read(i)
			no(t, "Read", b, e, api.ErrDown)
		}
		told(t, "Flush", d.Flush(), api.ErrDown)
		for _, n := range append([]int{0, 1, 2}, far...) {
			told(t, "Cut", d.Cut(n), api.ErrDown)
		}
		b, e := d.Sure(0)
		if !bytes.Equal(b, whole("")) || e != api.OK {
			t.Error("Sure", b, e)
		}
		b, e = d.Sure(2)
		no(t, "Sure", b, e, api.ErrArg)
	}
	f := d.Fork()
	stands(t, f, true, 0, 1)
	told(t, "Crash", d.Crash(api.Crash{Keep: []bool{true, true, true}, Torn: -1}), api.OK)
	stands(t, d, false, 1, 0)
	page(t, d, 0, "a", "a") // it waited
	page(t, d, 1, "", "")   // it never did
	stands(t, f, true, 0, 1)
}

// P6.2: a cut that is not awaited any more.
func TestCutNoMore(t *testing.T) {
	d := fresh(t, 1)
	told(t, "Cut", d.Cut(2), api.OK)
	write(t, d, 0, "a", api.OK)
	told(t, "Cut", d.Cut(0), api.OK)
	for range 4 {
		write(t, d, 0, "b", api.OK)
		told(t, "Flush", d.Flush(), api.OK)
	}
	told(t, "Cut", d.Cut(0), api.OK)
	told(t, "Flush", d.Flush(), api.OK)
	// A wrong one leaves the one that is awaited.
	told(t, "Cut", d.Cut(2), api.OK)
	for _, n := range []int{-1, -2, math.MinInt} {
		told(t, "Cut", d.Cut(n), api.ErrArg)
	}
	told(t, "Flush", d.Flush(), api.OK)
	told(t, "Flush", d.Flush(), api.ErrDown)
	told(t, "Crash", d.Crash(nothing), api.OK)
	// A crash ends it, with power and without.
	for _, n := range []int{1, 2, math.MaxInt} {
		told(t, "Cut", d.Cut(n), api.OK)
		told(t, "Crash", d.Crash(nothing), api.OK)
		for range 3 {
			told(t, "Flush", d.Flush(), api.OK)
		}
	}
	stands(t, d, false, 4, 0)
	// From now on: what was ahead does not count, and of two cuts the later one holds.
	told(t, "Cut", d.Cut(1), api.OK)
	told(t, "Cut", d.Cut(3), api.OK)
	write(t, d, 0, "c", api.OK)
	told(t, "Cut", d.Cut(2), api.OK)
	write(t, d, 0, "d", api.OK)
	write(t, d, 0, "e", api.ErrDown)
	stands(t, d, true, 4, 2)
}

// P6.2, Crash: what becomes of writes that wait.
func TestCrash(t *testing.T) {
	for _, c := range []struct {
		crash api.Crash
		want  [3]string
	}{
		{nothing, [3]string{full('o'), "", ""}},
		{api.Crash{}, [3]string{full('o'), "", ""}}, // of the first one no byte
		{api.Crash{Torn: -1, Keep: []bool{true}}, [3]string{"a", "", ""}},
		{api.Crash{Torn: math.MinInt, Keep: []bool{true, true, true, true}}, [3]string{full('c'), "b", "d"}},
		{api.Crash{Torn: 4, At: 64, Keep: []bool{true, true, true, true, true, true}}, [3]string{full('c'), "b", "d"}},
		{api.Crash{Torn: math.MaxInt, At: 64, Keep: []bool{false, true}}, [3]string{full('o'), "b", ""}},
		{api.Crash{Torn: -1, Keep: []bool{false, false, true}}, [3]string{full('c'), "", ""}},
		{api.Crash{Torn: -1, Keep: []bool{true, false, false, true}}, [3]string{"a", "", "d"}},
		{api.Crash{Torn: 0, At: 0, Keep: []bool{true, true}}, [3]string{full('o'), "b", ""}}, // torn goes ahead of kept
		{api.Crash{Torn: 0, At: 1}, [3]string{"a" + full('o')[1:], "", ""}},
		{api.Crash{Torn: 0, At: 3}, [3]string{"a\x00\x00" + full('o')[3:], "", ""}},
		{api.Crash{Torn: 0, At: 63}, [3]string{"a" + string(make([]byte, 62)) + "o", "", ""}},
		{api.Crash{Torn: 0, At: 64}, [3]string{"a", "", ""}},
		{api.Crash{Torn: 0, At: 65}, [3]string{"a", "", ""}},
		{api.Crash{Torn: 0, At: math.MaxInt}, [3]string{"a", "", ""}},
		{api.Crash{Torn: 0, At: -1, Keep: []bool{true}}, [3]string{full('o'), "", ""}},
		{api.Crash{Torn: 0, At: math.MinInt, Keep: []bool{true}}, [3]string{full('o'), "", ""}},
		{api.Crash{Torn: 2, At: 4}, [3]string{"cccc" + full('o')[4:], "", ""}},
		{api.Crash{Torn: 2, At: 4, Keep: []bool{true}}, [3]string{"cccc", "", ""}}, // on what the one ahead left
		{api.Crash{Torn: 3, At: 1, Keep: []bool{false, true, true}}, [3]string{full('c'), "b", "d"}},
		{api.Crash{Torn: 0, At: 2, Keep: []bool{false, false, true}}, [3]string{full('c'), "", ""}},
	} {
		for _, down := range []bool{false, true} {
			d := fresh(t, 3)
			write(t, d, 0, full('o'), api.OK)
			told(t, "Flush", d.Flush(), api.OK)
			for i, b := range []string{"a", "b", full('c'), "d"} {
				write(t, d, []int{0, 1, 0, 2}[i], b, api.OK)
			}
			if down {
				told(t, "Cut", d.Cut(1), api.OK)
				told(t, "Flush", d.Flush(), api.ErrDown)
			}
			stands(t, d, down, 0, 4)
			told(t, "Crash", d.Crash(c.crash), api.OK)
			stands(t, d, false, 1, 0)
			for i, want := range c.want {
				page(t, d, i, want, want)
			}
			told(t, "Crash", d.Crash(api.Crash{Keep: []bool{true}}), api.OK) // none waits any more
			stands(t, d, false, 2, 0)
			for i, want := range c.want {
				page(t, d, i, want, want)
			}
		}
	}
}

// P6.3, Age, Waits
func TestAge(t *testing.T) {
	d := fresh(t, 1)
	for i := range 300 {
		stands(t, d, false, i, 0)
		write(t, d, 0, "a", api.OK)
		write(t, d, 0, "b", api.OK)
		stands(t, d, false, i, 2)
		told(t, "Crash", d.Crash(nothing), api.OK)
	}
	for i := range 1000 {
		stands(t, d, false, 300, i)
		write(t, d, 0, "a", api.OK)
	}
	page(t, d, 0, "a", "")
}

// P6.3, Fork; P4: what becomes of the one changes nothing of the other one.
func TestFork(t *testing.T) {
	d := fresh(t, 2)
	write(t, d, 0, "a", api.OK)
	told(t, "Flush", d.Flush(), api.OK)
	told(t, "Crash", d.Crash(nothing), api.OK)
	for range 3 {
		write(t, d, 0, "b", api.OK) // three of them, so that the list has spare room
	}
	told(t, "Cut", d.Cut(3), api.OK)
	f := d.Fork()
	if f == nil || f == d {
		t.Fatal("a fork is another one")
	}
	stands(t, f, false, 1, 3)
	page(t, f, 0, "b", "a")
	write(t, d, 1, "c", api.OK)
	write(t, f, 1, "d", api.OK)
	page(t, d, 1, "c", "")
	page(t, f, 1, "d", "")
	// Each awaits the cut on its own.
	told(t, "Flush", f.Flush(), api.OK)
	told(t, "Flush", f.Flush(), api.ErrDown)
	stands(t, f, true, 1, 0)
	stands(t, d, false, 1, 4)
	page(t, d, 0, "b", "a")
	told(t, "Crash", d.Crash(api.Crash{Torn: -1, Keep: []bool{false, false, false, true}}), api.OK)
	page(t, d, 0, "a", "a")
	page(t, d, 1, "c", "c")
	stands(t, f, true, 1, 0)
	told(t, "Crash", f.Crash(nothing), api.OK)
	told(t, "Crash", f.Crash(nothing), api.OK)
	page(t, f, 0, "b", "b")
	page(t, f, 1, "d", "d")
	stands(t, d, false, 2, 0)
	stands(t, f, false, 3, 0)
}

// P3: what is handed in is not kept, and what is answered is new memory.
func TestNewMemory(t *testing.T) {
	d := fresh(t, 2)
	b := []byte("abcdef")
	told(t, "Write", d.Write(0, b[:3]), api.OK)
	if string(b) != "abcdef" {
		t.Error("what was handed in was changed")
	}
	copy(b, "xxxxxx")
	page(t, d, 0, "abc", "")
	told(t, "Flush", d.Flush(), api.OK)
	write(t, d, 1, "wait", api.OK)
	keep := []bool{true, false, true}
	for range 2 {
		for i, want := range []string{"abc", "wait"} {
			r, _ := d.Read(i)
			r2, _ := d.Read(i)
			s, _ := d.Sure(i)
			for _, l := range [][]byte{r, s} {
				for k := range l[:cap(l)] {
					l[:cap(l)][k] = '!'
				}
			}
			if !bytes.Equal(r2, whole(want)) {
				t.Error("an answer lies in another one")
			}
		}
		page(t, d, 0, "abc", "abc")
		r, _ := d.Read(1)
		if !bytes.Equal(r, whole("wait")) {
			t.Error("an answer is kept")
		}
		told(t, "Crash", d.Crash(api.Crash{Keep: keep[:1], Torn: -1}), api.OK)
	}
	if !slices.Equal(keep, []bool{true, false, true}) {
		t.Error("what was handed in was changed")
	}
}

// P1: of nil, and of one that no call made.
func TestNil(t *testing.T) {
	var d *disk.Disk
	for _, i := range append([]int{0, 1}, far...) {
		write(t, d, i, full('a')+"a", api.ErrNil)
		b, e := d.Read(i)
		no(t, "Read", b, e, api.ErrNil)
		b, e = d.Sure(i)
		no(t, "Sure", b, e, api.ErrNil)
		told(t, "Cut", d.Cut(i), api.ErrNil)
		told(t, "Crash", d.Crash(api.Crash{Torn: i}), api.ErrNil)
	}
	told(t, "Flush", d.Flush(), api.ErrNil)
	stands(t, d, false, 0, 0)
	if d.Fork() != nil {
		t.Error("Fork")
	}
	d = new(disk.Disk)
	d.Write(0, nil)
	d.Read(0)
	d.Sure(0)
	d.Flush()
	d.Cut(1)
	d.Crash(api.Crash{})
	d.Fork()
	stands(t, d, d.Down(), d.Age(), d.Waits())
}

// model is a disk said in another way: all that was written since the last flush, with what is sure as one text.
type model struct {
	sure  []byte
	at    []int
	what  [][]byte
	ahead int // how many Writes and Flushes are OK ahead of the cut, or -1
	down  bool
	age   int
}

// spent: does the power stay at a Write or a Flush?
func (m *model) spent() bool {
	if m.ahead == 0 {
		m.down = true
	}
	m.ahead = max(m.ahead-1, -1)
	return !m.down
}

// write is Write of a page that is there.
func (m *model) write(i int, b []byte) api.Errno {
	if m.down || !m.spent() {
		return api.ErrDown
	}
	m.at, m.what = append(m.at, i), append(m.what, whole(string(b)))
	return api.OK
}

// flush is Flush.
func (m *model) flush() api.Errno {
	if m.down || !m.spent() {
		return api.ErrDown
	}
	m.sure = m.reads()
	m.at, m.what = nil, nil
	return api.OK
}

// reads is all as it reads.
func (m *model) reads() []byte {
	all := slices.Clone(m.sure)
	for k, i := range m.at {
		copy(all[i*64:], m.what[k])
	}
	return all
}

// crash is Crash.
func (m *model) crash(c api.Crash) {
	for k, i := range m.at {
		for n, b := range m.what[k] {
			if k == c.Torn && n < c.At || k != c.Torn && k < len(c.Keep) && c.Keep[k] {
				m.sure[i*64+n] = b
			}
		}
	}
	*m = model{sure: m.sure, ahead: -1, age: m.age + 1}
}

// alike holds a disk to what its model is.
func alike(t *testing.T, d *disk.Disk, m *model) {
	t.Helper()
	stands(t, d, m.down, m.age, len(m.at))
	var sure, reads []byte
	for i := range len(m.sure) / 64 {
		s, _ := d.Sure(i)
		r, e := d.Read(i)
		if (e == api.ErrDown) != m.down {
			t.Fatal("Read", e)
		}
		sure, reads = append(sure, s...), append(reads, r...)
	}
	if !bytes.Equal(sure, m.sure) || !m.down && !bytes.Equal(reads, m.reads()) {
		t.Fatal("other pages than the model has")
	}
}

// anyCrash is a crash that is as likely as any other one.
func anyCrash(r *rand.Rand, waits int) api.Crash {
	c := api.Crash{Torn: r.Intn(waits+2) - 1, At: r.Intn(70) - 3}
	for range r.Intn(waits + 3) {
		c.Keep = append(c.Keep, r.Intn(2) == 0)
	}
	return c
}

// P6.1 to P6.3, step by step
func TestAsTheModel(t *testing.T) {
	r := rand.New(rand.NewSource(61))
	for range 150 {
		pages := 1 + r.Intn(5)
		d, m := fresh(t, pages), &model{sure: make([]byte, 64*pages), ahead: -1}
		for range 120 {
			switch r.Intn(12) {
			default:
				b := make([]byte, r.Intn(65))
				r.Read(b)
				i := r.Intn(pages)
				told(t, "Write", d.Write(i, b), m.write(i, b))
			case 0, 1:
				told(t, "Flush", d.Flush(), m.flush())
			case 2:
				n := r.Intn(12)
				if e := d.Cut(n); (e == api.OK) == m.down {
					t.Fatal("Cut", e)
				}
				if !m.down {
					m.ahead = n - 1
				}
			case 3:
				c := anyCrash(r, len(m.at))
				told(t, "Crash", d.Crash(c), api.OK)
				m.crash(c)
			case 4:
				other := d
				d = d.Fork()
				other.Crash(api.Crash{Keep: []bool{true, true, true}, Torn: 0, At: 7})
				other.Write(0, []byte("what becomes of the other one"))
				other.Flush()
			}
			alike(t, d, m)
		}
	}
}

// P6.4: what was flushed is sure, whatever is written elsewhere, and whatever becomes of it.
func TestFlushedIsSure(t *testing.T) {
	r := rand.New(rand.NewSource(62))
	for range 200 {
		d := fresh(t, 4)
		mine := r.Intn(4)
		b := make([]byte, 64)
		r.Read(b)
		write(t, d, mine, string(b), api.OK)
		told(t, "Flush", d.Flush(), api.OK)
		for range 60 {
			switch r.Intn(6) {
			default:
				d.Write((mine+1+r.Intn(3))%4, []byte(full('x'))[:r.Intn(65)])
			case 0:
				d.Flush()
			case 1:
				d.Cut(r.Intn(5))
			case 2:
				d.Crash(anyCrash(r, d.Waits()))
			}
			s, e := d.Sure(mine)
			if p, f := d.Read(mine); !bytes.Equal(s, b) || e != api.OK || !d.Down() && (!bytes.Equal(p, b) || f != api.OK) {
				t.Fatal("what was flushed is sure no more")
			}
		}
	}
}

// P6.5: of a page on which one write waits
func TestOneWaits(t *testing.T) {
	r := rand.New(rand.NewSource(63))
	for at := -2; at <= 66; at++ {
		for range 20 {
			d := fresh(t, 3)
			was, is := make([]byte, 64), make([]byte, 64)
			r.Read(was)
			r.Read(is)
			write(t, d, 1, string(was), api.OK)
			told(t, "Flush", d.Flush(), api.OK)
			for range r.Intn(3) {
				write(t, d, 2*r.Intn(2), full('x'), api.OK)
			}
			number := d.Waits()
			write(t, d, 1, string(is), api.OK)
			for range r.Intn(3) {
				write(t, d, 2*r.Intn(2), full('y'), api.OK)
			}
			c := anyCrash(r, d.Waits())
			c.At = at
			told(t, "Crash", d.Crash(c), api.OK)
			n := 0
			switch {
			case c.Torn == number:
				n = min(max(at, 0), 64)
			case number < len(c.Keep) && c.Keep[number]:
				n = 64
			}
			want := string(is[:n]) + string(was[n:])
			page(t, d, 1, want, want)
		}
	}
}

// P6: what is kept is kept in the disk alone: two of which the same is done tell the same.
func TestTwoDisks(t *testing.T) {
	a, b := fresh(t, 2), fresh(t, 2)
	told(t, "Cut", a.Cut(1), api.OK)
	write(t, b, 0, "b", api.OK)
	write(t, a, 0, "a", api.ErrDown)
	told(t, "Flush", b.Flush(), api.OK)
	told(t, "Crash", a.Crash(nothing), api.OK)
	page(t, a, 0, "", "")
	page(t, b, 0, "b", "b")
	stands(t, a, false, 1, 0)
	stands(t, b, false, 0, 0)
}
