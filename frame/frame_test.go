package frame_test

import (
	"bytes"
	"encoding/binary"
	"hash/crc32"
	"math"
	"math/rand"
	"slices"
	"testing"

	"pigeonhole/api"
	"pigeonhole/frame"
)

// plain is the frame of p, said another way than the package does, whether p may be packed or not.
func plain(p []byte) []byte {
	b := binary.BigEndian.AppendUint16(nil, uint16(len(p)))
	b = binary.BigEndian.AppendUint32(b, crc32.ChecksumIEEE(append(slices.Clone(b), p...)))
	return append(b, p...)
}

// some is n random bytes, the same in each run of the tests.
func some(r *rand.Rand, n int) []byte {
	p := make([]byte, n)
	r.Read(p)
	return p
}

// pack is the frame of p, which may be packed.
func pack(t *testing.T, p []byte) []byte {
	t.Helper()
	b, e := frame.Pack(p)
	if e != api.OK {
		t.Fatalf("Pack of %d bytes: %d", len(p), e)
	}
	return b
}

// one holds what One tells against what stands there.
func one(t *testing.T, b []byte, at int, p []byte, behind int) {
	t.Helper()
	if q, to, e := frame.One(b, at); !bytes.Equal(q, p) || to != behind || e != api.OK {
		t.Errorf("One at %d of %d bytes = %d bytes, %d, %d, want %d bytes, %d", at, len(b), len(q), to, e, len(p), behind)
	}
}

// none holds One to an error, and to nothing beside it (P2).
func none(t *testing.T, b []byte, at int, want api.Errno) {
	t.Helper()
	if q, to, e := frame.One(b, at); len(q) != 0 || to != 0 || e != want {
		t.Errorf("One at %d of %.20x, %d bytes = %d bytes, %d, %d, want %d", at, b, len(b), len(q), to, e, want)
	}
}

// P5.1
func TestSum(t *testing.T) {
	for s, want := range map[string]uint32{
		"": 0, "123456789": 0xcbf43926, "a": 0xe8b7be43, "\x00": 0xd202ef8d, "\xff": 0xff000000, "\x00\x00\x00\x00": 0x2144df1c, "\xff\xff\xff\xff": 0xffffffff,
		"The quick brown fox jumps over the lazy dog": 0x414fa339,
	} {
		if got := frame.Sum([]byte(s)); got != want {
			t.Errorf("Sum(%q) = %08x, want %08x", s, got, want)
		}
	}
	if frame.Sum(nil) != 0 {
		t.Error("Sum of nil")
	}
	for b := range 256 {
		if got := frame.Sum([]byte{byte(b)}); got != crc32.ChecksumIEEE([]byte{byte(b)}) {
			t.Errorf("Sum(%02x) = %08x", b, got)
		}
	}
	r := rand.New(rand.NewSource(51))
	for n := range 600 {
		p := some(r, n)
		if got := frame.Sum(p); got != crc32.ChecksumIEEE(p) {
			t.Fatalf("Sum(%x) = %08x", p, got)
		}
	}
	if p := some(r, 1<<20); frame.Sum(p) != crc32.ChecksumIEEE(p) {
		t.Error("Sum of many bytes")
	}
}

// P5.2, Pack
func TestPack(t *testing.T) {
	r := rand.New(rand.NewSource(52))
	for _, n := range []int{1, 2, 3, 255, 256, 257, 1999, 2000} {
		for _, p := range [][]byte{some(r, n), make([]byte, n), bytes.Repeat([]byte{255}, n)} {
			if b := pack(t, p); !bytes.Equal(b, plain(p)) || len(b) != n+6 {
				t.Errorf("Pack of %d bytes is another frame: %.20x", n, b)
			}
		}
	}
	b := pack(t, []byte("a"))
	if b[0] != 0 || b[1] != 1 || len(b) != 7 || b[6] != 0x61 || binary.BigEndian.Uint32(b[2:]) != crc32.ChecksumIEEE([]byte{0, 1, 0x61}) {
		t.Errorf("Pack(a) = %x", b)
	}
	if b := pack(t, make([]byte, 2000)); b[0] != 7 || b[1] != 0xd0 {
		t.Errorf("the length of 2000 is %x", b[:2])
	}
	for _, c := range []struct {
		n    int
		want api.Errno
	}{{0, api.ErrArg}, {2001, api.ErrLimit}, {2002, api.ErrLimit}, {65535, api.ErrLimit}, {65536, api.ErrLimit}, {65537, api.ErrLimit}, {1 << 20, api.ErrLimit}} {
		if b, e := frame.Pack(make([]byte, c.n)); len(b) != 0 || e != c.want {
			t.Errorf("Pack of %d bytes = %d bytes, %d, want %d", c.n, len(b), e, c.want)
		}
	}
	if b, e := frame.Pack(nil); len(b) != 0 || e != api.ErrArg {
		t.Error("Pack of nil", b, e)
	}
}

// P5.2, One: the place
func TestOnePlace(t *testing.T) {
	b := slices.Concat([]byte("xx"), pack(t, []byte("ab")), pack(t, []byte("c")), []byte("yyyyyyy"))
	one(t, b, 2, []byte("ab"), 10)
	one(t, b, 10, []byte("c"), 17)
	for _, at := range []int{-1, -2, len(b) + 1, len(b) + 2, 1 << 32, math.MaxInt, math.MaxInt - 5, math.MinInt} {
		none(t, b, at, api.ErrArg)
	}
	for _, at := range []int{-1, 1, 6, math.MaxInt, math.MinInt} {
		none(t, nil, at, api.ErrArg)
		none(t, []byte{}, at, api.ErrArg)
	}
	none(t, nil, 0, api.ErrShort)
	none(t, b, len(b), api.ErrShort)
	for at := len(b) - 5; at < len(b); at++ {
		none(t, b, at, api.ErrShort)
	}
	none(t, b, len(b)-6, api.ErrForm) // six bytes stand there: 7979 is too much
}

// P5.2, One: of several errors the first one
func TestOneFaults(t *testing.T) {
	for _, c := range []struct {
		bytes []byte
		want  api.Errno
	}{
		{[]byte{0, 0, 0, 0, 0}, api.ErrShort},                      // not even six, whatever the length is
		{[]byte{255, 255, 0, 0, 0}, api.ErrShort},                  //
		{[]byte{0, 0, 0, 0, 0, 0}, api.ErrForm},                    // the length 0
		{plain(nil), api.ErrForm},                                  // with a right sum
		{append(plain(nil), 1, 2), api.ErrForm},                    //
		{[]byte{7, 0xd1, 0, 0, 0, 0}, api.ErrForm},                 // the length 2001, though there are fewer
		{plain(make([]byte, 2001)), api.ErrForm},                   // and though there are so many, with a right sum
		{plain(make([]byte, 65535)), api.ErrForm},                  //
		{[]byte{255, 255, 0, 0, 0, 0}, api.ErrForm},                //
		{[]byte{7, 0xd0, 0, 0, 0, 0}, api.ErrShort},                // the length 2000
		{plain(make([]byte, 2000))[:2005], api.ErrShort},           // one is missing
		{[]byte{0, 1, 0, 0, 0, 0}, api.ErrShort},                   // ahead of the sum, which is wrong, too
		{[]byte{0, 2, 0, 0, 0, 0, 9}, api.ErrShort},                //
		{[]byte{0, 1, 0, 0, 0, 0, 9}, api.ErrSum},                  //
		{append([]byte{0, 1}, plain([]byte("ab"))...), api.ErrSum}, // another place's sum
	} {
		for _, ahead := range []int{0, 1, 7} {
			none(t, append(make([]byte, ahead), c.bytes...), ahead, c.want)
		}
	}
	// The sum is that of the length, too.
	b := pack(t, []byte("ab"))
	copy(b[2:], binary.BigEndian.AppendUint32(nil, frame.Sum([]byte("ab"))))
	none(t, b, 0, api.ErrSum)
	// Not with the lowest byte first.
	b = pack(t, []byte("ab"))
	slices.Reverse(b[2:6])
	none(t, b, 0, api.ErrSum)
	// Each beginning of a frame is too short, but for what is behind it.
	b = pack(t, []byte("some bytes"))
	for n := range b {
		none(t, b[:n], 0, api.ErrShort)
	}
	one(t, append(b, 1), 0, []byte("some bytes"), len(b))
}

// P5.2, Scan
func TestScan(t *testing.T) {
	r := rand.New(rand.NewSource(53))
	for range 300 {
		var b []byte
		var want [][]byte
		for range r.Intn(6) {
			p := some(r, 1+r.Intn(40))
			want, b = append(want, p), append(b, pack(t, p)...)
		}
		end := len(b)
		switch r.Intn(7) {
		case 0:
			b = append(b, make([]byte, r.Intn(20))...) // nothing: the length 0, or too short
		case 1:
			b = append(b, plain(make([]byte, 2001))...)
		case 2:
			b = append(b, pack(t, []byte("abc"))[:1+r.Intn(8)]...)
		case 3:
			p := pack(t, []byte("abc"))
			p[2+r.Intn(7)] ^= 1 << r.Intn(8)
			b = append(append(b, p...), pack(t, []byte("none is behind a fault"))...)
		case 4:
			b = append(append(b, 0), pack(t, []byte("none is behind a fault"))...)
		}
		got, at := frame.Scan(b)
		if !slices.EqualFunc(got, want, bytes.Equal) || at != end {
			t.Fatalf("Scan tells %d frames up to %d, want %d up to %d", len(got), at, len(want), end)
		}
	}
	for _, b := range [][]byte{nil, {}, {0}, {0, 1, 0, 0, 0, 0}} {
		if l, at := frame.Scan(b); len(l) != 0 || at != 0 {
			t.Errorf("Scan(%x) = %d frames, %d", b, len(l), at)
		}
	}
}

// Scan stops at the first place at which One has an error: the two agree on any bytes.
func TestScanIsOneByOne(t *testing.T) {
	r := rand.New(rand.NewSource(54))
	for range 3000 {
		var b []byte
		for range r.Intn(5) {
			b = append(b, pack(t, some(r, 1+r.Intn(5)))...)
		}
		if len(b) > 0 && r.Intn(2) == 0 {
			b[r.Intn(len(b))] ^= 1 << r.Intn(8)
		}
		b = append(b, some(r, r.Intn(4))...)
		var want [][]byte
		end := 0
		for {
			p, to, e := frame.One(b, end)
			if e != api.OK {
				break
			}
			want, end = append(want, p), to
		}
		if got, at := frame.Scan(b); !slices.EqualFunc(got, want, bytes.Equal) || at != end {
			t.Fatalf("Scan(%x) = %x, %d, but one by one %x, %d", b, got, at, want, end)
		}
	}
}

// P5.3: whatever stands around
func TestThereAndBack(t *testing.T) {
	r := rand.New(rand.NewSource(55))
	for n := 1; n <= 2000; n += 1 + r.Intn(60) {
		p, q := some(r, n), some(r, 1+r.Intn(2000))
		a, b := pack(t, p), pack(t, q)
		ahead, behind := some(r, r.Intn(10)), some(r, r.Intn(10))
		all := slices.Concat(ahead, a, b, behind)
		one(t, all, len(ahead), p, len(ahead)+len(a))
		one(t, all, len(ahead)+len(a), q, len(ahead)+len(a)+len(b))
		if l, at := frame.Scan(slices.Concat(a, b)); len(l) != 2 || !bytes.Equal(l[0], p) || !bytes.Equal(l[1], q) || at != len(a)+len(b) {
			t.Fatalf("two frames of %d and %d bytes are scanned as %d, up to %d", len(p), len(q), len(l), at)
		}
	}
	p := some(r, 2000)
	one(t, pack(t, p), 0, p, 2006)
}

// P5.4
func TestChanged(t *testing.T) {
	r := rand.New(rand.NewSource(56))
	ask := func(b []byte, at int, change []byte) {
		t.Helper()
		c := slices.Clone(b)
		for i, x := range change {
			c[at+i] ^= x
		}
		none(t, c, 0, api.ErrSum)
		if l, end := frame.Scan(c); len(l) != 0 || end != 0 {
			t.Fatal("a changed frame is scanned")
		}
	}
	// Each change of one byte, and of a few two.
	b := pack(t, []byte("letters"))
	for at := 6; at < len(b); at++ {
		for x := 1; x < 256; x++ {
			ask(b, at, []byte{byte(x)})
			if at+1 < len(b) {
				ask(b, at, []byte{byte(r.Intn(256)), byte(x)})
			}
		}
	}
	for range 3000 {
		b := pack(t, some(r, 1+r.Intn(300)))
		change := some(r, 1+r.Intn(min(4, len(b)-6)))
		if bytes.Count(change, []byte{0}) == len(change) {
			continue
		}
		ask(b, 6+r.Intn(len(b)-6-len(change)+1), change)
	}
}

// P3: what is handed in stays, spare room behind it, too, and what is answered is new memory.
func TestNewMemory(t *testing.T) {
	room := []byte("abcdefgh")
	b, _ := frame.Pack(room[:3])
	copy(b[:cap(b)], make([]byte, cap(b)))
	if string(room) != "abcdefgh" {
		t.Error("Pack changed what was handed in")
	}
	all := slices.Concat(pack(t, []byte("first")), pack(t, []byte("second")), []byte("rest"))
	was := slices.Clone(all)
	p, to, _ := frame.One(all, 0)
	l, at := frame.Scan(all[:to])
	k, _ := frame.Scan(all)
	if at != to || len(l) != 1 || len(k) != 2 {
		t.Fatal("scanned", len(l), len(k))
	}
	for _, q := range [][]byte{p, l[0], k[0]} {
		for i := range q[:cap(q)] {
			q[:cap(q)][i] = '!'
		}
	}
	if !bytes.Equal(all, was) || string(k[1]) != "second" {
		t.Error("an answer lies in what was handed in, or in another answer")
	}
	one(t, all, 0, []byte("first"), 11)
}

// P1, P6: each call ends at any bytes, and tells the same again.
func TestAnyBytes(t *testing.T) {
	r := rand.New(rand.NewSource(57))
	list := [][]byte{nil, {}, make([]byte, 1<<16), bytes.Repeat([]byte{255}, 1<<16), bytes.Repeat([]byte{7, 0xd0}, 1<<12), bytes.Repeat(pack(t, []byte{0, 1}), 1<<12)}
	for range 3000 {
		list = append(list, some(r, r.Intn(30)))
		b := pack(t, some(r, 1+r.Intn(20)))
		b[r.Intn(len(b))] = byte(r.Intn(3))
		list = append(list, b)
	}
	for _, b := range list {
		for _, at := range []int{0, 1, len(b) / 2, len(b) - 6, len(b), r.Int(), -r.Int()} {
			p, to, e := frame.One(b, at)
			q, to2, e2 := frame.One(slices.Clone(b), at)
			if !bytes.Equal(p, q) || to != to2 || e != e2 {
				t.Fatalf("One tells another thing the second time: %.20x at %d", b, at)
			}
			if e == api.OK && (to != at+6+len(p) || !bytes.Equal(b[at:to], plain(p))) || e != api.OK && (len(p) != 0 || to != 0) {
				t.Fatalf("One(%.20x, %d) = %.20x, %d, %d", b, at, p, to, e)
			}
		}
		l, at := frame.Scan(b)
		var again []byte
		for _, p := range l {
			again = append(again, plain(p)...)
		}
		if at != len(again) || !bytes.Equal(again, b[:at]) {
			t.Fatalf("Scan(%.20x) tells %d frames up to %d", b, len(l), at)
		}
		if s, e := frame.Pack(b); frame.Sum(b) != crc32.ChecksumIEEE(b) || e == api.OK && !bytes.Equal(s, plain(b)) {
			t.Fatalf("Sum or Pack of %.20x", b)
		}
	}
}
