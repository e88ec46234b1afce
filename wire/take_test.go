package wire_test

import (
	"bytes"
	"math"
	"math/rand"
	"slices"
	"strings"
	"testing"

	"pigeonhole/api"
	"pigeonhole/wire"
)

// refuses holds bytes against the error that Take is to have of them.
func refuses(t *testing.T, what string, b []byte, want api.Errno) {
	t.Helper()
	was := bytes.Clone(b)
	m, e := wire.Take(b)
	if e != want || !same(m, api.Mail{}) {
		t.Errorf("Take of %s, %.60q = %s, %d, want %d", what, b, told(m), e, want)
	}
	if !bytes.Equal(b, was) {
		t.Errorf("Take of %s changed what it was handed", what)
	}
}

// P13.2, P13.3 (M1): Take of Put is the message, of the bytes in a frame as of those that were put.
func TestTake(t *testing.T) {
	for _, s := range samples() {
		if m, e := wire.Take(framed(s.held)); !same(m, s.mail) || e != api.OK {
			t.Errorf("Take of %q = %s, %d, want %s", s.held, told(m), e, told(s.mail))
		}
	}
	for _, want := range all() {
		b, e := wire.Put(want)
		if e != api.OK {
			t.Fatalf("Put(%s) = %d", told(want), e)
		}
		if m, e := wire.Take(b); !same(m, want) || e != api.OK {
			t.Errorf("Take of Put = %s, %d, want %s", told(m), e, told(want))
		}
	}
}

// P13.2: what is wrong with the frame goes ahead of all that it holds.
func TestTakeFrame(t *testing.T) {
	for _, s := range samples() {
		b := framed(s.held)
		for n := range b {
			refuses(t, "too few bytes", b[:n], api.ErrShort)
		}
		refuses(t, "a byte more", append(slices.Clone(b), 0), api.ErrForm)
		refuses(t, "another message behind it", append(slices.Clone(b), b...), api.ErrForm)
		refuses(t, "a byte ahead", append([]byte{0}, b...), api.ErrForm) // a length of 0
		for i := 2; i < len(b); i++ {
			b[i] ^= 1
			refuses(t, "another byte", b, api.ErrSum)
			b[i] ^= 1
		}
	}
	refuses(t, "nothing", nil, api.ErrShort)
	refuses(t, "no bytes", []byte{}, api.ErrShort)
	refuses(t, "a frame of none", make([]byte, 6), api.ErrForm)
	refuses(t, "a frame of too many", append([]byte{0x07, 0xd1}, make([]byte, 3000)...), api.ErrForm)
	refuses(t, "a wrong sum of no message", []byte("\x00\x01\x00\x00\x00\x00\x00"), api.ErrSum)
	refuses(t, "no message, and bytes behind it", append(framed("\x00"), 0), api.ErrForm)
}

// P13.2: each beginning of what a frame holds is too short, and with a byte more it is of another form.
func TestTakeShort(t *testing.T) {
	for _, want := range all() {
		b, _ := wire.Put(want)
		held := string(b[6:])
		for n := 1; n < len(held); n++ {
			refuses(t, "a beginning", framed(held[:n]), api.ErrShort)
		}
		if want.Kind != api.Ready || len(held) < 1800 {
			refuses(t, "a byte more within the frame", framed(held+"\x00"), api.ErrForm)
		}
	}
}

// P13.2: what a frame holds, from the left; of several errors the first one.
func TestTakeOrder(t *testing.T) {
	ready := "\x01\x05\x02" + txBytes
	vote := "\x02\x00\x07" + txBytes
	wrong := strings.Replace(deedBytes, "\x01u", "\x01U", 1)
	full := string(make([]byte, 1801))
	for _, c := range []struct {
		held string
		want api.Errno
	}{
		// A kind that is none is told, whatever is behind it.
		{"\x00", api.ErrType}, {"\x08", api.ErrType}, {"\xff", api.ErrType}, {"\x00\x01\x02", api.ErrType},
		{"\x08\x08\x08" + txBytes, api.ErrType}, {"\x08" + full, api.ErrType},
		{"\x01", api.ErrShort}, {"\x07", api.ErrShort},
		// Too short, or too long, goes ahead of what is out of its range.
		{"\x04\x08\x02" + txBytes[:8], api.ErrShort},
		{"\x04\x08\x02" + txBytes + "\x00", api.ErrForm},
		{"\x04\x08\x02" + txBytes, api.ErrArg},
		{"\x04\x01\xff" + txBytes, api.ErrArg},
		{"\x04\x01\x02\x00\x00\x00\x00\x00\x00\x00\x00\x01", api.ErrArg},
		{"\x04\x01\x02\x00\x00\x00\x00\x01\x00\x00\x00\x00", api.ErrArg},
		{"\x05\x01\x02\x00\x80\x00\x00\x00\x00\x00\x00\x01", api.ErrArg},
		{"\x05\x01\x02\x00\x00\x00\x00\x01\xff\xff\xff\xff", api.ErrArg},
		{"\x03\x06\x01" + txBytes, api.ErrShort},
		{"\x03\x06\x01" + txBytes + "\x00", api.ErrArg},
		{"\x03\x06\x01" + txBytes + "\x01", api.OK},
		{"\x03\x06\x01" + txBytes + "\x03", api.ErrArg},
		{"\x03\x06\x01" + txBytes + "\x03\x01", api.ErrForm},
		// A Ready: the deeds' errors, behind the Epochs, go ahead of all that is out of its range.
		{ready, api.ErrShort},
		{ready + "\x00", api.ErrShort},
		{ready + "\x00\x00", api.ErrShort},
		{ready + "\x01\x02\x00", api.ErrShort},
		{ready + "\x01\x02\x00\x00", api.ErrForm},
		{ready + "\x01\x02\x00\x0d", api.ErrForm},
		{ready + "\x00\x00" + deedBytes, api.ErrArg},
		{ready + "\x01\x02\x00" + deedBytes, api.ErrArg},
		{ready + "\x01\x02\x01\x00\x00\x00\x00" + deedBytes, api.ErrArg},
		{ready + "\x01\x02\x02\x00\x00\x00\x00\x00\x00\x00\x00" + deedBytes, api.OK},
		{ready + "\x01\x04\x02\x00\x00\x00\x00\x00\x00\x00\x00" + deedBytes, api.ErrArg},
		{ready + "\x05\x00\x01\x02\x03\x02\x02\x00\x00\x00\x00\x00\x00\x00\x00" + deedBytes, api.ErrArg},
		{ready + "\x01\x02\x03" + string(make([]byte, 12)) + deedBytes, api.ErrArg},
		{ready + "\x01\x04\x02\x00\x00\x00\x00\x00\x00\x00\x00" + wrong, api.ErrForm},
		{ready + "\x00\x00" + wrong, api.ErrForm},
		{ready + "\x00\x00" + deedBytes + "x", api.ErrForm},
		{ready + "\x00\x00" + deedBytes[:40], api.ErrShort},
		{ready + "\x00\x00" + full, api.ErrLimit},
		{ready + "\xff" + string(make([]byte, 255)) + "\x00" + deedBytes, api.ErrArg},
		{ready + "\xff" + string(make([]byte, 254)), api.ErrShort},
		{ready + "\x01\x02\xff" + string(make([]byte, 255*4)) + deedBytes, api.ErrArg},
		{ready + "\x01\x02\xff" + string(make([]byte, 255*4-1)), api.ErrShort},
		{"\x01\x08\x02" + txBytes + "\x01\x02\x02\x00\x00\x00\x00\x00\x00\x00\x00" + wrong, api.ErrForm},
		// A Voted.
		{vote + "\x00\x00\x00\x00\x00\x00\x00\x00\x00\x00", api.OK},
		{vote + "\x0e\x00\x00\x00\x00\x00\x00\x00\x00\x00", api.OK},
		{vote + "\x0f\x00\x00\x00\x00\x00\x00\x00\x00\x00", api.ErrArg},
		{vote + "\x0f\x00\x00\x00\x00\x00\x00\x00\x00", api.ErrShort},
		{vote + "\x0f\x00\x00\x00\x00\x00\x00\x00\x00\x00\x00", api.ErrForm},
		{vote + "\x00\x0c" + string(make([]byte, 48)) + "\x00\x00\x00\x00\x00\x00\x00\x00", api.OK},
		{vote + "\x00\x0d" + string(make([]byte, 52)) + "\x00\x00\x00\x00\x00\x00\x00\x00", api.ErrArg},
		{vote + "\x00\x00\x00\x04\x00\x00\x00\x00\x00\x00", api.ErrArg},
		{vote + "\x00\x00\x18" + full[:24] + "\x00\x00\x00\x00\x00\x00\x00", api.OK},
		{vote + "\x00\x00\x19" + full[:25] + "\x00\x00\x00\x00\x00\x00\x00", api.ErrArg},
		{vote + "\x00\x00\xff" + full[:255] + "\x00\x00\x00\x00\x00\x00\x00", api.ErrArg},
		{vote + "\x00\x00\x00\x00\x00\x00\x00\x00\x07\x08" + full[:1800], api.OK},
		{vote + "\x00\x00\x00\x00\x00\x00\x00\x00\x07\x09" + full, api.ErrArg},
		{vote + "\x00\x00\x00\x00\x00\x00\x00\x00\xff\xff" + full, api.ErrShort},
		// A Want, and a Shown.
		{"\x06\x01\x02\x00\x00\x00\x00\x00\x00\x00\x00\x00", api.OK},
		{"\x06\x01\x02\x00\x00\x00\x00\x19" + full[:25] + "\x00\x00\x00\x00", api.ErrArg},
		{"\x06\x01\x02\x00\x00\x00\x00\x19" + full[:24], api.ErrShort},
		{"\x06\x01\x02\x00\x00\x00\x00\x00\x00\x00\x00\x00\x00", api.ErrForm},
		{"\x07\x01\x02\x00\x00\x00\x00" + full[:10], api.OK},
		{"\x07\x01\x02\x00\x00\x00\x00" + full[:9], api.ErrShort},
		{"\x07\x01\x02\x00\x00\x00\x00" + full[:11], api.ErrForm},
		{"\x07\x01\x08\x00\x00\x00\x00" + full[:10], api.ErrArg},
		{"\x07\x01\x02\x00\x00\x00\x00\x0f" + full[:9], api.ErrArg},
	} {
		if c.want != api.OK {
			refuses(t, "these", framed(c.held), c.want)
		} else if _, e := wire.Take(framed(c.held)); e != api.OK {
			t.Errorf("Take of %q = %d", c.held, e)
		}
	}
}

// P13.3 (M1), P1: what Take takes is what Put gives, of bytes of which some are other ones.
func TestTakeOfAnyBytes(t *testing.T) {
	r := rand.New(rand.NewSource(133))
	l, taken := all(), map[api.Kind]int{}
	for range 40000 {
		b, _ := wire.Put(l[r.Intn(len(l))])
		held := b[6:]
		for range r.Intn(3) {
			held[r.Intn(len(held))] = byte(r.Intn(256) >> r.Intn(8))
		}
		if at := r.Intn(len(held)); r.Intn(8) == 0 {
			held = slices.Delete(held, at, min(len(held), at+r.Intn(4)))
		}
		b = framed(string(held))
		m, e := wire.Take(b)
		if e != api.OK {
			if !same(m, api.Mail{}) {
				t.Fatalf("beside the error %d stands %s", e, told(m))
			}
			continue
		}
		taken[m.Kind]++
		if back, e := wire.Put(m); e != api.OK || !bytes.Equal(back, b) {
			t.Fatalf("Put of Take(%q) = %q, %d", b, back, e)
		}
	}
	for k := api.Ready; k <= api.Shown; k++ {
		if taken[k] < 500 {
			t.Errorf("only %d of the kind %d are taken", taken[k], k)
		}
	}
	for range 40000 {
		held := make([]byte, 1+r.Intn(60))
		r.Read(held)
		held[0] %= 9
		b := framed(string(held))
		if m, e := wire.Take(b); e == api.OK {
			if back, e := wire.Put(m); e != api.OK || !bytes.Equal(back, b) {
				t.Fatalf("Put of Take(%q) = %q, %d", b, back, e)
			}
		}
		wire.Take(held)
	}
}

// P1, P13.3: Check and Put end at all messages, and what Put puts is taken.
func TestAnyMail(t *testing.T) {
	r := rand.New(rand.NewSource(131))
	n := func() int {
		return []int{0, 0, 1, 1, 2, 3, 4, 7, 8, 255, 256, life, life + 1, top, top + 1, -1, math.MaxInt, math.MinInt}[r.Intn(18)]
	}
	list := func() []int {
		l := make([]int, []int{0, 0, 1, 2, 4, 5, 12, 13, 300}[r.Intn(9)])
		for i := range l {
			l[i] = r.Intn(4)
		}
		if len(l) > 0 && r.Intn(4) == 0 {
			l[r.Intn(len(l))] = n()
		}
		return l
	}
	text := func() string {
		return strings.Repeat("u", []int{0, 0, 1, 24, 25, 255, 256}[r.Intn(7)])
	}
	for k := range 60000 {
		m := all()[k%len(all())]
		for range r.Intn(4) {
			switch r.Intn(12) {
			case 0:
				m.Kind = api.Kind(n())
			case 1:
				m.From, m.To = n(), n()
			case 2:
				m.Tx = api.Tx{Node: n(), Boot: n(), N: n()}
			case 3:
				m.Part.Tx = m.Tx
			case 4:
				m.Part.Peers = list()
			case 5:
				m.Part.Epochs = list()
			case 6:
				m.Part.Deeds = make([]api.Deed, r.Intn(20))
			case 7:
				m.Vote = api.Vote{Errno: api.Errno(n()), Numbers: list()}
			case 8:
				m.Vote.Seat = api.Seat{User: text(), Shard: n(), Epoch: n()}
			case 9:
				m.Vote.Bytes = make([]byte, []int{0, 1, 1800, 1801, 1 << 16}[r.Intn(5)])
			case 10:
				m.Fate, m.N = api.Fate(n()), n()
			case 11:
				m.User, m.Epoch = text(), n()
			}
		}
		b, e := wire.Put(m)
		if c := wire.Check(m); c != e || e != api.OK && len(b) != 0 {
			t.Fatalf("Check(%s) = %d, Put of it = %.20q, %d", told(m), c, b, e)
		}
		if e != api.OK {
			continue
		}
		if back, e := wire.Take(b); e != api.OK || !same(back, m) {
			t.Fatalf("Take of Put = %s, %d, want %s", told(back), e, told(m))
		}
	}
}

// P3: what is taken lies in memory of its own, no two lists of it in the same, and bytes that are handed in are not kept.
func TestTakeMemory(t *testing.T) {
	for _, s := range samples() {
		b := framed(s.held)
		spare := append(slices.Clone(b), "spare"...)
		m, _ := wire.Take(spare[:len(b)])
		again, _ := wire.Take(b)
		for i := range b {
			b[i] ^= 0xff
		}
		for i := range spare[:len(b)] {
			spare[i] ^= 0xff
		}
		_ = append(m.Part.Peers, 9, 9, 9)
		_ = append(m.Part.Epochs, 9, 9, 9)
		_ = append(m.Vote.Numbers, 9, 9, 9)
		_ = append(m.Vote.Bytes, "spoilt by what was laid behind"...)
		for _, d := range m.Part.Deeds {
			_ = append(d.Bytes, "spoilt by what was laid behind"...)
		}
		if !same(m, s.mail) || !same(again, s.mail) || string(spare[len(b):]) != "spare" {
			t.Errorf("a %d that was taken changed with what was handed in", s.mail.Kind)
		}
		for i := range m.Part.Peers {
			m.Part.Peers[i] = 9
		}
		for i := range m.Vote.Numbers {
			m.Vote.Numbers[i] = 9
		}
		for i := range m.Vote.Bytes {
			m.Vote.Bytes[i] = 'X'
		}
		if !same(again, s.mail) || !slices.Equal(m.Part.Epochs, s.mail.Part.Epochs) || m.Vote.Seat != s.mail.Vote.Seat {
			t.Errorf("two lists of a %d lie in the same memory", s.mail.Kind)
		}
	}
}
