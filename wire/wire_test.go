package wire_test

import (
	"encoding/binary"
	"fmt"
	"hash/crc32"
	"math"
	"reflect"
	"slices"
	"strings"
	"testing"

	"pigeonhole/api"
	"pigeonhole/deed"
	"pigeonhole/wire"
)

const (
	top  = 1<<32 - 1 // the greatest number
	life = 1<<31 - 1 // the greatest life, and number in it
)

// framed is a frame of bytes.
func framed(held string) []byte {
	b := binary.BigEndian.AppendUint16(nil, uint16(len(held)))
	return append(binary.BigEndian.AppendUint32(b, crc32.ChecksumIEEE(append(slices.Clone(b), held...))), held...)
}

// deeds are an Open of u, and a Put; their bytes stand in the message ready.
func deeds() []api.Deed {
	return []api.Deed{
		{Do: api.Open, User: "u"},
		{Do: api.Put, User: "bob", Box: "INBOX", Flags: 9, Bytes: []byte("hello")},
	}
}

const deedBytes = "\x02" +
	"\x01\x01u\x00\x00\x00\x00\x00\x00\x00\x00\x00\x00\x00\x00\x00\x00\x00" +
	"\x04\x03bob\x05INBOX\x00\x00\x00\x00\x00\x00\x09\x00\x00\x00\x00\x00\x00\x05hello"

// sample is a message, and what its frame holds.
type sample struct {
	mail api.Mail
	held string
}

// tx is a transaction, and txBytes are its bytes.
var tx = api.Tx{Node: 200, Boot: 0x1020304, N: 0x7ffffffe}

const txBytes = "\xc8\x01\x02\x03\x04\x7f\xff\xff\xfe"

// samples are messages of each kind, in their order: no value in one is another one's, but where none is.
func samples() []sample {
	return []sample{
		{
			api.Mail{Kind: api.Ready, From: 5, To: 2, Tx: tx, Part: api.Part{Tx: tx, Peers: []int{2, 3}, Deeds: deeds(), Epochs: []int{0, 0xfedcba98}}},
			"\x01\x05\x02" + txBytes + "\x02\x02\x03" + "\x02\x00\x00\x00\x00\xfe\xdc\xba\x98" + deedBytes,
		},
		{
			api.Mail{Kind: api.Voted, From: 0, To: 7, Tx: tx, Vote: api.Vote{
				Errno: api.ErrStale, Numbers: []int{0, 7, top}, Seat: api.Seat{User: "b\x00\xff", Shard: 3, Epoch: 0x8899aabb}, Bytes: []byte("\x00xy"),
			}},
			"\x02\x00\x07" + txBytes + "\x0c" + "\x03\x00\x00\x00\x00\x00\x00\x00\x07\xff\xff\xff\xff" + "\x03b\x00\xff\x03\x88\x99\xaa\xbb" + "\x00\x03\x00xy",
		},
		{
			api.Mail{Kind: api.Told, From: 6, To: 1, Tx: tx, Fate: api.Dropped},
			"\x03\x06\x01" + txBytes + "\x02",
		},
		{
			api.Mail{Kind: api.Acked, From: 1, To: 2, Tx: api.Tx{Boot: 1, N: 1}}, // Example 1
			"\x04\x01\x02" + "\x00\x00\x00\x00\x01\x00\x00\x00\x01",
		},
		{
			api.Mail{Kind: api.Asked, From: 3, To: 3, Tx: tx},
			"\x05\x03\x03" + txBytes,
		},
		{
			api.Mail{Kind: api.Want, From: 4, To: 0, N: 0x90a0b0c0, User: "bob", Epoch: 0x11223344},
			"\x06\x04\x00" + "\x90\xa0\xb0\xc0" + "\x03bob" + "\x11\x22\x33\x44",
		},
		{
			api.Mail{Kind: api.Shown, From: 1, To: 4, N: 258, Vote: api.Vote{Seat: api.Seat{Epoch: 1}, Bytes: []byte("\x03bob")}},
			"\x07\x01\x04" + "\x00\x00\x01\x02" + "\x00" + "\x00" + "\x00\x00\x00\x00\x00\x01" + "\x00\x04\x03bob",
		},
	}
}

// of is the message of a kind.
func of(k api.Kind) api.Mail { return samples()[k-api.Ready].mail }

// letter is a Put of so many bytes.
func letter(n int) api.Deed {
	return api.Deed{Do: api.Put, User: "u", Box: "a", Bytes: []byte(strings.Repeat("x", n))}
}

// edges are messages that just are right.
func edges() []api.Mail {
	full := []api.Deed{letter(600), letter(600), letter(542)} // of MaxDone bytes
	least, most := api.Tx{Boot: 1, N: 1}, api.Tx{Node: 255, Boot: life, N: life}
	twelve := slices.Repeat([]api.Deed{{Do: api.Open, User: strings.Repeat("u", 24)}}, 12)
	return []api.Mail{
		{Kind: api.Ready, Tx: least, Part: api.Part{Tx: least, Peers: []int{0}, Deeds: deeds()[:1], Epochs: []int{0}}},
		{Kind: api.Ready, From: 7, To: 7, Tx: most, Part: api.Part{Tx: most, Peers: []int{3, 3, 0, 2}, Deeds: twelve, Epochs: slices.Repeat([]int{top}, 12)}},
		{Kind: api.Ready, From: 7, To: 7, Tx: most, Part: api.Part{Tx: most, Peers: []int{0, 1, 2, 3}, Deeds: full, Epochs: []int{0, 1, top}}},
		{Kind: api.Voted, Tx: least},
		{Kind: api.Voted, From: 7, To: 7, Tx: most, Vote: api.Vote{
			Errno: api.ErrType, Numbers: slices.Repeat([]int{top}, 12), Seat: api.Seat{User: strings.Repeat("\xff", 24), Shard: 3, Epoch: top}, Bytes: make([]byte, 1800),
		}},
		{Kind: api.Told, To: 7, Tx: least, Fate: api.Done},
		{Kind: api.Acked, From: 7, Tx: most},
		{Kind: api.Asked, Tx: least},
		{Kind: api.Want},
		{Kind: api.Want, N: top, User: strings.Repeat("\x00", 24), Epoch: top},
		{Kind: api.Shown},
		{Kind: api.Shown, N: top, Vote: api.Vote{Bytes: make([]byte, 1800)}},
		{Kind: api.Shown, N: 1, Vote: api.Vote{Errno: api.ErrNil, Numbers: make([]int, 12)}},
	}
}

// all are all messages that are right.
func all() []api.Mail {
	l := edges()
	for _, s := range samples() {
		l = append(l, s.mail)
	}
	return l
}

// told is a message as a test tells it.
func told(m api.Mail) string { return fmt.Sprintf("%.300s", fmt.Sprintf("%+v", m)) }

// same: are two messages alike, whether an empty list is nil or not?
func same(a, b api.Mail) bool {
	same := slices.EqualFunc(a.Part.Deeds, b.Part.Deeds, func(a, b api.Deed) bool {
		same := string(a.Bytes) == string(b.Bytes)
		a.Bytes, b.Bytes = nil, nil
		return same && reflect.DeepEqual(a, b)
	})
	same = same && slices.Equal(a.Part.Peers, b.Part.Peers) && slices.Equal(a.Part.Epochs, b.Part.Epochs)
	same = same && slices.Equal(a.Vote.Numbers, b.Vote.Numbers) && string(a.Vote.Bytes) == string(b.Vote.Bytes)
	for _, m := range []*api.Mail{&a, &b} {
		m.Part.Deeds, m.Part.Peers, m.Part.Epochs, m.Vote.Numbers, m.Vote.Bytes = nil, nil, nil, nil, nil
	}
	return same && reflect.DeepEqual(a, b)
}

// fault is a change that makes a message wrong, what is told of it, and how far behind that is named.
type fault struct {
	name string
	rank int
	want api.Errno
	do   func(*api.Mail)
}

// number are the faults of a number that is to be from low to high.
func number(name string, low, high int, lay func(*api.Mail, int)) []fault {
	var l []fault
	for _, n := range []int{low - 1, high + 1, high + 2, 256, 1 << 8 << 32, 1 << 32, -1, math.MaxInt, math.MinInt} {
		if n < low || n > high {
			l = append(l, fault{name, 1, api.ErrArg, func(m *api.Mail) { lay(m, n) }})
		}
	}
	return l
}

// partFaults are those of a Ready's part.
func partFaults() []fault {
	l := slices.Concat(
		number("Part.Tx.Node", 200, 200, func(m *api.Mail, n int) { m.Part.Tx.Node = n }), // the message's, and no other one
		number("Part.Tx.Boot", 0x1020304, 0x1020304, func(m *api.Mail, n int) { m.Part.Tx.Boot = n }),
		number("Part.Tx.N", 0x7ffffffe, 0x7ffffffe, func(m *api.Mail, n int) { m.Part.Tx.N = n }),
		number("a first Peer", 0, 3, func(m *api.Mail, n int) { m.Part.Peers = []int{n, 1} }),
		number("a last Peer", 0, 3, func(m *api.Mail, n int) { m.Part.Peers = []int{0, 1, n} }),
		number("a first Epoch", 0, top, func(m *api.Mail, n int) { m.Part.Epochs = []int{n, 1} }),
		number("a last Epoch", 0, top, func(m *api.Mail, n int) { m.Part.Epochs = []int{1, n} }),
	)
	arg := func(name string, do func(*api.Part)) {
		l = append(l, fault{name, 1, api.ErrArg, func(m *api.Mail) { do(&m.Part) }})
	}
	arg("Part.Tx", func(p *api.Part) { p.Tx = api.Tx{} })
	arg("no Peers", func(p *api.Part) { p.Peers = nil })
	arg("Peers of none", func(p *api.Part) { p.Peers = []int{} })
	arg("five Peers", func(p *api.Part) { p.Peers = []int{0, 1, 2, 3, 0} })
	arg("256 Peers", func(p *api.Part) { p.Peers = make([]int, 256) })
	arg("no Epochs", func(p *api.Part) { p.Epochs = nil })
	arg("an Epoch less", func(p *api.Part) { p.Epochs = make([]int, max(len(p.Deeds)-1, 0)) })
	arg("an Epoch more", func(p *api.Part) { p.Epochs = make([]int, len(p.Deeds)+1) })
	arg("258 Epochs", func(p *api.Part) { p.Epochs = make([]int, 258) })
	list := func(name string, want api.Errno, deeds ...api.Deed) {
		l = append(l, fault{name, 2, want, func(m *api.Mail) { m.Part.Deeds, m.Part.Epochs = deeds, make([]int, len(deeds)) }})
	}
	list("no Deeds", api.ErrArg)
	list("a Deed of none", api.ErrType, deeds()[0], api.Deed{})
	list("a Deed of a wrong user", api.ErrForm, deeds()[0], api.Deed{Do: api.Open, User: "U"})
	list("a Deed of a wrong number", api.ErrArg, api.Deed{Do: api.Open, User: "u", UID: 1}, api.Deed{})
	list("13 Deeds", api.ErrLimit, slices.Repeat(deeds()[:1], 13)...)
	list("256 Deeds", api.ErrLimit, make([]api.Deed, 256)...)
	list("a long letter", api.ErrLimit, letter(601))
	list("too many bytes", api.ErrLimit, letter(600), letter(600), letter(543))
	list("far too many bytes", api.ErrLimit, slices.Repeat([]api.Deed{letter(600)}, 12)...)
	return l
}

// voteFaults are those of a vote.
func voteFaults() []fault {
	l := slices.Concat(
		number("Errno", 0, 14, func(m *api.Mail, n int) { m.Vote.Errno = api.Errno(n) }),
		number("a first Number", 0, top, func(m *api.Mail, n int) { m.Vote.Numbers = []int{n, 0} }),
		number("a last Number", 0, top, func(m *api.Mail, n int) { m.Vote.Numbers = []int{0, n} }),
		number("Seat.Shard", 0, 3, func(m *api.Mail, n int) { m.Vote.Seat.Shard = n }),
		number("Seat.Epoch", 0, top, func(m *api.Mail, n int) { m.Vote.Seat.Epoch = n }),
	)
	for _, n := range []int{13, 256, 1 << 16} {
		l = append(l, fault{"many Numbers", 1, api.ErrArg, func(m *api.Mail) { m.Vote.Numbers = make([]int, n) }})
	}
	for _, n := range []int{25, 256, 1 << 16} {
		l = append(l, fault{"Seat.User", 1, api.ErrArg, func(m *api.Mail) { m.Vote.Seat.User = strings.Repeat("u", n) }})
	}
	for _, n := range []int{1801, 1900, 2001, 1 << 16, 1<<16 + 1} {
		l = append(l, fault{"Bytes", 1, api.ErrArg, func(m *api.Mail) { m.Vote.Bytes = make([]byte, n) }})
	}
	return l
}

// strayFaults are values that a kind does not name, though they are right where they are named.
func strayFaults(is func(...api.Kind) bool) []fault {
	var l []fault
	stray := func(name string, do func(*api.Mail)) {
		l = append(l, fault{name, 1, api.ErrArg, do})
	}
	if is(api.Want, api.Shown) {
		stray("Tx", func(m *api.Mail) { m.Tx = tx })
		stray("Tx.Node", func(m *api.Mail) { m.Tx.Node = 1 })
		stray("Tx.Boot", func(m *api.Mail) { m.Tx.Boot = 1 })
		stray("Tx.N", func(m *api.Mail) { m.Tx.N = 1 })
	}
	if !is(api.Ready) {
		stray("Part", func(m *api.Mail) { m.Part = of(api.Ready).Part })
		stray("Part.Tx", func(m *api.Mail) { m.Part.Tx = tx })
		stray("Part.Tx.Node", func(m *api.Mail) { m.Part.Tx.Node = -1 })
		stray("Peers", func(m *api.Mail) { m.Part.Peers = []int{0} })
		stray("Deeds", func(m *api.Mail) { m.Part.Deeds = deeds() })
		stray("a Deed", func(m *api.Mail) { m.Part.Deeds = make([]api.Deed, 1) })
		stray("Epochs", func(m *api.Mail) { m.Part.Epochs = []int{0} })
	}
	if !is(api.Voted, api.Shown) {
		stray("Vote", func(m *api.Mail) { m.Vote = of(api.Voted).Vote })
		stray("Errno", func(m *api.Mail) { m.Vote.Errno = api.ErrNil })
		stray("Numbers", func(m *api.Mail) { m.Vote.Numbers = []int{0} })
		stray("Seat.User", func(m *api.Mail) { m.Vote.Seat.User = "u" })
		stray("Seat.Shard", func(m *api.Mail) { m.Vote.Seat.Shard = 1 })
		stray("Seat.Epoch", func(m *api.Mail) { m.Vote.Seat.Epoch = 1 })
		stray("Bytes", func(m *api.Mail) { m.Vote.Bytes = []byte{0} })
	}
	return l
}

// faults are those of messages of a kind.
func faults(k api.Kind) []fault {
	is := func(l ...api.Kind) bool { return slices.Contains(l, k) }
	var l []fault
	for _, n := range []api.Kind{api.NoKind, -1, api.Shown + 1, 256 + api.Ready, math.MaxInt, math.MinInt} {
		l = append(l, fault{"Kind", 0, api.ErrType, func(m *api.Mail) { m.Kind = n }})
	}
	l = append(l, number("From", 0, 7, func(m *api.Mail, n int) { m.From = n })...)
	l = append(l, number("To", 0, 7, func(m *api.Mail, n int) { m.To = n })...)
	l = append(l, strayFaults(is)...)
	if !is(api.Want, api.Shown) {
		l = append(l, number("Tx.Node", 0, 255, func(m *api.Mail, n int) { m.Tx.Node, m.Part.Tx.Node = n, n })...)
		l = append(l, number("Tx.Boot", 1, life, func(m *api.Mail, n int) { m.Tx.Boot, m.Part.Tx.Boot = n, n })...)
		l = append(l, number("Tx.N", 1, life, func(m *api.Mail, n int) { m.Tx.N, m.Part.Tx.N = n, n })...)
	}
	if is(api.Ready) {
		l = append(l, partFaults()...)
	}
	if is(api.Voted, api.Shown) {
		l = append(l, voteFaults()...)
	}
	fates := []api.Fate{api.Done, api.Dropped, 3, -1, 257, math.MaxInt, math.MinInt}
	if is(api.Told) {
		fates[0], fates[1] = api.Unknown, 256
	}
	for _, f := range fates {
		l = append(l, fault{"Fate", 1, api.ErrArg, func(m *api.Mail) { m.Fate = f }})
	}
	up := func(named bool) int {
		if named {
			return top
		}
		return 0
	}
	l = append(l, number("N", 0, up(is(api.Want, api.Shown)), func(m *api.Mail, n int) { m.N = n })...)
	l = append(l, number("Epoch", 0, up(is(api.Want)), func(m *api.Mail, n int) { m.Epoch = n })...)
	for _, n := range []int{1, 24, 25, 256, 1 << 16} {
		if n > 24 || !is(api.Want) {
			l = append(l, fault{"User", 1, api.ErrArg, func(m *api.Mail) { m.User = strings.Repeat("u", n) }})
		}
	}
	return l
}

// P13.1, and P2: each thing that is wrong with a message, alone and beside each other one.
func TestCheckFaults(t *testing.T) {
	holds := func(m api.Mail, want api.Errno, what string) {
		t.Helper()
		if e := wire.Check(m); e != want {
			t.Errorf("Check of a %d: %s = %d, want %d", m.Kind, what, e, want)
		}
		if b, e := wire.Put(m); len(b) != 0 || e != want {
			t.Errorf("Put of a %d: %s = %.20q, %d, want %d", m.Kind, what, b, e, want)
		}
	}
	for k := api.Ready; k <= api.Shown; k++ {
		l := faults(k)
		for _, a := range l {
			m := of(k)
			a.do(&m)
			holds(m, a.want, a.name)
			for _, b := range l {
				// One that is named ahead hides the other one. Those of one rank are told alike, but for deeds.
				if b.rank < a.rank || b.rank == a.rank && a.rank == 2 {
					continue
				}
				m := of(k)
				b.do(&m)
				a.do(&m) // behind the other one: deeds lay their epochs, too
				holds(m, a.want, a.name+" and "+b.name)
			}
		}
	}
}

// P13.1: what is right, and its edges.
func TestCheckRight(t *testing.T) {
	for _, m := range all() {
		if e := wire.Check(m); e != api.OK {
			t.Errorf("Check(%s) = %d", told(m), e)
		}
		// Lists that are empty need not be nil.
		if m.Kind != api.Ready {
			m.Part = api.Part{Peers: []int{}, Deeds: []api.Deed{}, Epochs: []int{}}
		}
		if len(m.Vote.Numbers) == 0 {
			m.Vote.Numbers = []int{}
		}
		if len(m.Vote.Bytes) == 0 {
			m.Vote.Bytes = []byte{}
		}
		if e := wire.Check(m); e != api.OK {
			t.Errorf("Check(%s) of empty lists = %d", told(m), e)
		}
	}
	if e := wire.Check(api.Mail{}); e != api.ErrType {
		t.Errorf("Check of no message = %d", e)
	}
	if e := wire.Check(api.Mail{Kind: api.Acked}); e != api.ErrArg {
		t.Errorf("Check of an Acked of no transaction = %d", e)
	}
	m := of(api.Voted) // an error beside what goes with none, too: no word rules it out
	for e := api.OK; e <= api.ErrType; e++ {
		if m.Vote.Errno = e; wire.Check(m) != api.OK {
			t.Errorf("Check of a vote of %d = %d", e, wire.Check(m))
		}
	}
}

// P13.1: no message that is right is too long for a frame.
func TestLongest(t *testing.T) {
	for i, want := range map[int]int{
		2: 3 + 9 + 5 + 13 + 1800,
		4: 3 + 9 + 1 + 49 + 30 + 1802,
	} {
		b, e := wire.Put(edges()[i])
		if len(b) != want+6 || e != api.OK || want > api.MaxPay {
			t.Errorf("Put of the edge %d = %d bytes, %d, want %d", i, len(b), e, want+6)
		}
	}
	if b, e := deed.PutAll(edges()[2].Part.Deeds); len(b) != api.MaxDone || e != api.OK {
		t.Errorf("the deeds are %d bytes, of %d", len(b), api.MaxDone)
	}
}

// P13.1, Put: the bytes of each kind.
func TestPut(t *testing.T) {
	for _, s := range samples() {
		b, e := wire.Put(s.mail)
		if string(b) != string(framed(s.held)) || e != api.OK {
			t.Errorf("Put of a %d = %q, %d, want %q", s.mail.Kind, b, e, framed(s.held))
		}
	}
}

// P3: what is handed in stays as it is, spare room too, and what is answered lies not in it.
func TestPutMemory(t *testing.T) {
	for k := api.Ready; k <= api.Shown; k++ {
		m := of(k)
		m.Part.Peers = append(m.Part.Peers, 77)[:len(m.Part.Peers)]
		m.Part.Epochs = append(m.Part.Epochs, 77)[:len(m.Part.Epochs)]
		m.Vote.Numbers = append(m.Vote.Numbers, 77)[:len(m.Vote.Numbers)]
		m.Vote.Bytes = append(m.Vote.Bytes, 77)[:len(m.Vote.Bytes)]
		m.Part.Deeds = append(m.Part.Deeds, api.Deed{User: "spare"})[:len(m.Part.Deeds)]
		spare := func() bool {
			p, v := m.Part, m.Vote
			behind := func(l []int) int { return l[:len(l)+1][len(l)] }
			return behind(p.Peers) == 77 && behind(p.Epochs) == 77 && behind(v.Numbers) == 77 &&
				v.Bytes[:len(v.Bytes)+1][len(v.Bytes)] == 77 && p.Deeds[:len(p.Deeds)+1][len(p.Deeds)].User == "spare"
		}
		b, e := wire.Put(m)
		again, _ := wire.Put(m)
		wire.Check(m)
		for i := range b {
			b[i] ^= 0xff
		}
		if e != api.OK || !spare() || !same(m, of(k)) {
			t.Errorf("a %d changed by its Put", k)
		}
		if string(again) != string(framed(samples()[k-api.Ready].held)) {
			t.Errorf("two answers of a %d lie in the same memory", k)
		}
	}
}
