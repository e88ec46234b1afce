package deed_test

import (
	"bytes"
	"encoding/binary"
	"math"
	"math/rand"
	"reflect"
	"slices"
	"strings"
	"testing"

	"pigeonhole/api"
	"pigeonhole/deed"
)

// top is the greatest number.
const top = 1<<32 - 1

// long is n letters of a to z.
func long(n int) string {
	return strings.Repeat("abcdefghijklmnopqrstuvwxyz", n/26+1)[:n]
}

// letters are n letters of so many bytes, with UIDs from 1 on.
func letters(n, size int) []api.Letter {
	var l []api.Letter
	for i := range n {
		l = append(l, api.Letter{UID: i + 1, Flags: uint8(i % 32), Bytes: []byte(long(size))})
	}
	return l
}

// inbox is an INBOX with letters.
func inbox(l ...api.Letter) api.Box {
	return api.Box{Name: "INBOX", Valid: 1, Next: 1000, Letters: l}
}

// bob is a user with two boxes.
func bob() api.User {
	return api.User{Name: "bob", Valid: 7, Boxes: []api.Box{
		inbox(api.Letter{UID: 2, Flags: 31, Bytes: []byte("hi")}, api.Letter{UID: 258}),
		{Name: "a/ä", Valid: 7, Next: top},
	}}
}

// bobBytes are bob's.
const bobBytes = "\x03bob" + "\x00\x00\x00\x07" + "\x02" +
	"\x05INBOX" + "\x00\x00\x00\x01" + "\x00\x00\x03\xe8" + "\x02" +
	"\x00\x00\x00\x02" + "\x1f" + "\x00\x02hi" +
	"\x00\x00\x01\x02" + "\x00" + "\x00\x00" +
	"\x04a/\xc3\xa4" + "\x00\x00\x00\x07" + "\xff\xff\xff\xff" + "\x00"

// largest is a user with as many bytes as one may have.
func largest() api.User {
	u := api.User{Name: long(24), Valid: top, Boxes: []api.Box{inbox(letters(32, 30)...)}}
	for _, c := range "abcde" {
		u.Boxes = append(u.Boxes, api.Box{Name: string(c) + long(23), Valid: top, Next: top})
	}
	u.Boxes[5].Letters = letters(8, 30)
	return u
}

// right are deeds that are right, of each kind one.
func right() []api.Deed {
	return []api.Deed{
		{Do: api.Open, User: "u"},
		{Do: api.Make, User: "u", Box: "a"},
		{Do: api.Drop, User: "u", Box: "a"},
		{Do: api.Put, User: "u", Box: "INBOX", Flags: 5, Bytes: []byte("hello")},
		{Do: api.Turn, User: "u", Box: "a", UID: 258, How: api.Less, Flags: 31},
		{Do: api.Cut, User: "u", Box: "a", UID: top},
		{Do: api.Rename, User: "u", Box: "a", To: "b/c"},
		{Do: api.Enter, User: "bob", Epoch: 772, Bytes: []byte(bobBytes)},
		{Do: api.Leave, User: "u", Shard: 3, Epoch: top},
	}
}

// sameDeed: have two deeds the same in them, whether a list is nil or empty?
func sameDeed(a, b api.Deed) bool {
	same := bytes.Equal(a.Bytes, b.Bytes)
	a.Bytes, b.Bytes = nil, nil
	return same && reflect.DeepEqual(a, b)
}

// sameUser: have two users the same in them, whether a list is nil or empty?
func sameUser(a, b api.User) bool {
	return a.Name == b.Name && a.Valid == b.Valid && slices.EqualFunc(a.Boxes, b.Boxes, func(x, y api.Box) bool {
		return x.Name == y.Name && x.Valid == y.Valid && x.Next == y.Next && slices.EqualFunc(x.Letters, y.Letters, func(l, m api.Letter) bool {
			return l.UID == m.UID && l.Flags == m.Flags && bytes.Equal(l.Bytes, m.Bytes)
		})
	})
}

// copiedUser is a user in memory of its own.
func copiedUser(u api.User) api.User {
	u.Boxes = slices.Clone(u.Boxes)
	for i := range u.Boxes {
		u.Boxes[i].Letters = slices.Clone(u.Boxes[i].Letters)
		for j := range u.Boxes[i].Letters {
			u.Boxes[i].Letters[j].Bytes = slices.Clone(u.Boxes[i].Letters[j].Bytes)
		}
	}
	return u
}

// bytesOf is a deed's bytes, reckoned without the package.
func bytesOf(d api.Deed) string {
	b := []byte{byte(d.Do)}
	for _, s := range []string{d.User, d.Box, d.To} {
		b = append(append(b, byte(len(s))), s...)
	}
	b = binary.BigEndian.AppendUint32(b, uint32(d.UID))
	b = append(b, byte(d.How), d.Flags, byte(d.Shard))
	b = binary.BigEndian.AppendUint32(b, uint32(d.Epoch))
	b = binary.BigEndian.AppendUint16(b, uint16(len(d.Bytes)))
	return string(b) + string(d.Bytes)
}

// userBytes is a user's bytes, reckoned without the package.
func userBytes(u api.User) string {
	b := append([]byte{byte(len(u.Name))}, u.Name...)
	b = binary.BigEndian.AppendUint32(b, uint32(u.Valid))
	b = append(b, byte(len(u.Boxes)))
	for _, x := range u.Boxes {
		b = append(append(b, byte(len(x.Name))), x.Name...)
		b = binary.BigEndian.AppendUint32(b, uint32(x.Valid))
		b = binary.BigEndian.AppendUint32(b, uint32(x.Next))
		b = append(b, byte(len(x.Letters)))
		for _, l := range x.Letters {
			b = binary.BigEndian.AppendUint32(b, uint32(l.UID))
			b = append(b, l.Flags)
			b = binary.BigEndian.AppendUint16(b, uint16(len(l.Bytes)))
			b = append(b, l.Bytes...)
		}
	}
	return string(b)
}

// The words: a user's name that is right.
func TestRightUser(t *testing.T) {
	for c := range 256 {
		s := string([]byte{byte(c)})
		want := strings.Contains("abcdefghijklmnopqrstuvwxyz0123456789.-_", s)
		for _, s := range []string{s, "a" + s, s + "z", "." + s + "9"} {
			if deed.RightUser(s) != want {
				t.Errorf("RightUser(%q) = %v", s, !want)
			}
		}
	}
	for s, want := range map[string]bool{
		"": false, "bob": true, "bob.x-1_2": true, ".": true, "-": true, "Bob": false, "bob ": false, "bo/b": false, "ä": false, "a\u0161": false,
		"b@c": false, long(24): true, long(25): false, strings.Repeat("9", 24): true, strings.Repeat("é", 12): false, strings.Repeat("a", 1<<16): false,
	} {
		if deed.RightUser(s) != want {
			t.Errorf("RightUser(%.40q) = %v", s, !want)
		}
	}
}

// The words: a box's name that is right.
func TestRightBox(t *testing.T) {
	for c := range 256 {
		s := string([]byte{byte(c)})
		want := c >= 32 && c < 127
		for _, s := range []string{s, "a" + s, s + "z", " " + s + "9"} {
			if deed.RightBox(s) != want {
				t.Errorf("RightBox(%q) = %v", s, !want)
			}
		}
	}
	for s, want := range map[string]bool{
		"": false, "INBOX": true, "inbox": false, "Inbox": false, "iNBOX": false, "INBO": true, "inbo": true, "INBOX/a": true, "inbox/a": true, "inboxx": true,
		" inbox": true, "a/b": true, "/": true, "//": true, "~bob/INBOX": true, "\"\\": true, "ä": true, "\ufffd": true, "\u0080": true, "a\xff": false,
		"\xc3": false, "\xed\xa0\x80": false, "a\x00": false, "a\r\n": false, long(24): true, long(25): false, strings.Repeat("ä", 12): true,
		strings.Repeat("ä", 12) + "b": false, strings.Repeat("\\", 24): true, strings.Repeat("a", 1<<16): false,
	} {
		if deed.RightBox(s) != want {
			t.Errorf("RightBox(%.40q) = %v", s, !want)
		}
	}
}

// The words: Fold.
func TestFold(t *testing.T) {
	for s, want := range map[string]string{
		"INBOX": "INBOX", "inbox": "INBOX", "iNbOx": "INBOX", "": "", "a": "a", "Sent": "Sent", "INBOX/a": "INBOX/a", "inbox/a": "inbox/a",
		"inbo": "inbo", "inboxx": "inboxx", " inbox": " inbox", "\xff": "\xff", "\u0131nbox": "\u0131nbox", strings.Repeat("I", 3000): strings.Repeat("I", 3000),
	} {
		if got := deed.Fold(s); got != want {
			t.Errorf("Fold(%.40q) = %.40q", s, got)
		}
	}
}

// fault is a change that makes a deed wrong, what is told of it, and how far behind that is named.
type fault struct {
	name string
	rank int
	want api.Errno
	do   func(*api.Deed)
}

// faults are those of deeds of a kind.
func faults(do api.Do) []fault {
	one := func(l ...api.Do) bool { return slices.Contains(l, do) }
	var all []fault
	numbers := func(name string, rank int, asked bool, low, high int, lay func(*api.Deed, int)) {
		bad := []int{low - 1, high + 1, -1, math.MaxInt, math.MinInt}
		if !asked {
			bad = []int{1, 2, 31, -1, math.MaxInt, math.MinInt}
		}
		for _, n := range bad {
			all = append(all, fault{name, rank, api.ErrArg, func(d *api.Deed) { lay(d, n) }})
		}
	}
	boxes := func(name string, rank int, asked bool, lay func(*api.Deed, string)) {
		bad := []string{"", "inbox", long(25), "\x00", "\xff"}
		if !asked {
			bad = []string{"a", "INBOX", "inbox", "\x00"}
		}
		for _, s := range bad {
			all = append(all, fault{name, rank, api.ErrForm, func(d *api.Deed) { lay(d, s) }})
		}
	}
	for _, n := range []api.Do{api.NoDo, -1, api.Leave + 1, math.MaxInt, math.MinInt} {
		all = append(all, fault{"Do", 0, api.ErrType, func(d *api.Deed) { d.Do = n }})
	}
	for _, s := range []string{"", "U", "u u", "\xff", long(25)} {
		all = append(all, fault{"User", 1, api.ErrForm, func(d *api.Deed) { d.User = s }})
	}
	boxes("Box", 2, one(api.Make, api.Drop, api.Put, api.Turn, api.Cut, api.Rename), func(d *api.Deed, s string) { d.Box = s })
	boxes("To", 3, one(api.Rename), func(d *api.Deed, s string) { d.To = s })
	numbers("UID", 4, one(api.Turn, api.Cut), 1, top, func(d *api.Deed, n int) { d.UID = n })
	numbers("How", 5, one(api.Turn), 0, 2, func(d *api.Deed, n int) { d.How = n })
	for _, n := range []uint8{1, 16, 31, 32, 33, 128, 255} {
		if n >= 32 || !one(api.Put, api.Turn) {
			all = append(all, fault{"Flags", 6, api.ErrArg, func(d *api.Deed) { d.Flags = n }})
		}
	}
	numbers("Shard", 7, one(api.Leave), 0, 3, func(d *api.Deed, n int) { d.Shard = n })
	numbers("Epoch", 8, one(api.Enter, api.Leave), 1, top, func(d *api.Deed, n int) { d.Epoch = n })
	content := func(want api.Errno, p string) {
		all = append(all, fault{"Bytes", 9, want, func(d *api.Deed) { d.Bytes = []byte(p) }})
	}
	switch do {
	case api.Put:
		content(api.ErrLimit, long(601))
		content(api.ErrLimit, long(1<<16+1))
	case api.Enter:
		content(api.ErrShort, "")
		content(api.ErrShort, bobBytes[:len(bobBytes)-1])
		content(api.ErrForm, bobBytes+"\x00")
		content(api.ErrForm, strings.Replace(bobBytes, "bob", "b b", 1))
		content(api.ErrArg, strings.Replace(bobBytes, "\x07", "\x00", 1))
		content(api.ErrForm, strings.Replace(bobBytes, "bob", "bib", 1)) // a user who is right, but another one
		content(api.ErrFull, "\x03bib\x00\x00\x00\x07\x00")              // ahead of that it is another one
	default:
		content(api.ErrArg, "x")
		content(api.ErrArg, bobBytes)
	}
	return all
}

// P9.1, and P2: each thing that is wrong with a deed, alone and beside each other one.
func TestCheck(t *testing.T) {
	for _, d := range right() {
		if e := deed.Check(d); e != api.OK {
			t.Errorf("Check(%v) = %d", d, e)
		}
		all := faults(d.Do)
		for _, a := range all {
			x := d
			a.do(&x)
			if e := deed.Check(x); e != a.want {
				t.Errorf("Check(%.200v) = %d, want %d", x, e, a.want)
			}
			for _, b := range all {
				// One that is named ahead hides the other one. (Another user, too, is what an Enter is held against last.)
				if b.rank <= a.rank {
					continue
				}
				x := d
				a.do(&x)
				b.do(&x)
				if e := deed.Check(x); e != a.want {
					t.Errorf("Check of a %d whose %s and %s are wrong = %d, want %d", d.Do, a.name, b.name, e, a.want)
				}
			}
		}
	}
}

// P9.1: the edges of what is right.
func TestCheckEdges(t *testing.T) {
	u, _ := deed.PutUser(largest())
	for _, d := range []api.Deed{
		{Do: api.Open, User: long(24), Bytes: []byte{}},
		{Do: api.Make, User: "u", Box: long(24)},
		{Do: api.Make, User: "u", Box: "INBOX"}, // whether it is there already is not asked
		{Do: api.Drop, User: "u", Box: "INBOX"},
		{Do: api.Put, User: "u", Box: "a"},
		{Do: api.Put, User: "u", Box: "a", Flags: 31, Bytes: []byte(long(600))},
		{Do: api.Turn, User: "u", Box: "a", UID: 1},
		{Do: api.Turn, User: "u", Box: "a", UID: top, How: api.More, Flags: 16},
		{Do: api.Cut, User: "u", Box: "a", UID: 1},
		{Do: api.Rename, User: "u", Box: "a", To: "a"},
		{Do: api.Rename, User: "u", Box: "INBOX", To: long(24)},
		{Do: api.Enter, User: "bob", Epoch: 1, Bytes: []byte(bobBytes)},
		{Do: api.Enter, User: "bob", Epoch: top, Bytes: []byte(bobBytes)},
		{Do: api.Enter, User: long(24), Epoch: top, Bytes: u},
		{Do: api.Leave, User: "u", Epoch: 1},
	} {
		if e := deed.Check(d); e != api.OK {
			t.Errorf("Check(%.200v) = %d", d, e)
		}
	}
}

// P9.2, PutAll
func TestPutAll(t *testing.T) {
	open, e := deed.PutAll([]api.Deed{{Do: api.Open, User: "u"}}) // Example 1
	if want := "\x01\x01\x01u\x00\x00" + strings.Repeat("\x00", 13); string(open) != want || e != api.OK {
		t.Errorf("PutAll of an Open of u = %q, %d", open, e)
	}
	turn, e := deed.PutAll(right()[4:5])
	if want := "\x01\x05\x01u\x01a\x00" + "\x00\x00\x01\x02" + "\x02\x1f\x00" + "\x00\x00\x00\x00" + "\x00\x00"; string(turn) != want || e != api.OK {
		t.Errorf("PutAll of a Turn = %q, %d", turn, e)
	}
	leave, e := deed.PutAll(right()[8:])
	if want := "\x01\x09\x01u\x00\x00" + "\x00\x00\x00\x00" + "\x00\x00\x03" + "\xff\xff\xff\xff" + "\x00\x00"; string(leave) != want || e != api.OK {
		t.Errorf("PutAll of a Leave = %q, %d", leave, e)
	}
	l := right()
	want := "\x09"
	for _, d := range l {
		want += bytesOf(d)
	}
	if b, e := deed.PutAll(l); string(b) != want || e != api.OK {
		t.Errorf("PutAll = %q, %d", b, e)
	}
	if !reflect.DeepEqual(l, right()) {
		t.Error("PutAll changed what it was handed")
	}
}

// put is a Put of so many bytes.
func put(n int) api.Deed {
	return api.Deed{Do: api.Put, User: "u", Box: "a", Bytes: []byte(long(n))}
}

// P9.2, PutAll: what is none, in the order of the errors, and what just is one.
func TestPutAllErrors(t *testing.T) {
	open, wrong, worse := api.Deed{Do: api.Open, User: "u"}, api.Deed{Do: api.Open}, api.Deed{}
	// Three Puts have 1 + 3 * 19 bytes beside those of their letters.
	for i, c := range []struct {
		l    []api.Deed
		want api.Errno
	}{
		{nil, api.ErrArg},
		{[]api.Deed{}, api.ErrArg},
		{slices.Repeat([]api.Deed{open}, 12), api.OK},
		{slices.Repeat([]api.Deed{open}, 13), api.ErrLimit},
		{slices.Repeat([]api.Deed{wrong}, 13), api.ErrLimit},
		{[]api.Deed{open, wrong, worse}, api.ErrForm},
		{[]api.Deed{open, worse, wrong}, api.ErrType},
		{[]api.Deed{put(600), put(600), put(600), wrong}, api.ErrForm}, // ahead of what is too much
		{[]api.Deed{put(600), put(600), put(601)}, api.ErrLimit},
		{[]api.Deed{put(600), put(600), put(600 - 58)}, api.OK},
		{[]api.Deed{put(600), put(600), put(600 - 57)}, api.ErrLimit},
		{[]api.Deed{put(600), put(600), put(600)}, api.ErrLimit},
		{slices.Repeat([]api.Deed{put(600)}, 12), api.ErrLimit},
	} {
		b, e := deed.PutAll(c.l)
		if e != c.want || e != api.OK && len(b) != 0 {
			t.Errorf("%d: PutAll = %d bytes, %d, want %d", i, len(b), e, c.want)
		}
	}
	if b, _ := deed.PutAll([]api.Deed{put(600), put(600), put(600 - 58)}); len(b) != api.MaxDone {
		t.Errorf("there are %d bytes, of %d", len(b), api.MaxDone)
	}
}

// P9.2, TakeAll: what is none, in the order of the errors.
func TestTakeAll(t *testing.T) {
	open, wrong, worse := bytesOf(api.Deed{Do: api.Open, User: "u"}), bytesOf(api.Deed{Do: api.Open}), bytesOf(api.Deed{Do: 255, User: "u"})
	full := "\x03" + bytesOf(put(600)) + bytesOf(put(600)) + bytesOf(put(542))
	for i, c := range []struct {
		b    string
		want api.Errno
	}{
		{"", api.ErrShort},
		{"\x00", api.ErrForm},
		{"\x0d", api.ErrForm},
		{"\xff" + open, api.ErrForm},
		{"\x00" + open, api.ErrForm},
		{"\x0d" + strings.Repeat(open, 13), api.ErrForm},
		{"\x0c" + strings.Repeat(open, 12), api.OK},
		{"\x0c" + strings.Repeat(open, 11), api.ErrShort},
		{"\x0b" + strings.Repeat(open, 12), api.ErrForm},
		{"\x01", api.ErrShort},
		{"\x01" + open + "\x00", api.ErrForm},
		{"\x02" + wrong + open[:5], api.ErrShort}, // ahead of what is wrong with a deed
		{"\x01" + wrong + "x", api.ErrForm},
		{"\x01" + worse + "x", api.ErrForm},
		{"\x03" + open + worse + wrong, api.ErrType},
		{"\x03" + open + wrong + worse, api.ErrForm},
		{"\x01" + bytesOf(put(601)), api.ErrLimit},
		{full, api.OK},
		{full + "x", api.ErrLimit},
		{"\x00" + full, api.ErrLimit}, // ahead of all others
		{strings.Repeat("\x00", 1800), api.ErrForm},
		{strings.Repeat("\x00", 1801), api.ErrLimit},
		{"\x01\x01\xff", api.ErrShort},
		{"\x01\x04\x01u\x01a\x00\x00\x00\x00\x00\x00\x00\x00\x00\x00\x00\x00\xff\xff", api.ErrShort}, // a body that is said to be long
		{"\x01" + bytesOf(api.Deed{Do: api.Turn, User: "u", Box: "a", UID: 1, How: 3}), api.ErrArg},
		{"\x01" + bytesOf(api.Deed{Do: api.Turn, User: "u", Box: "a", UID: 0}), api.ErrArg},
		{"\x01" + bytesOf(api.Deed{Do: api.Leave, User: "u", Shard: 4, Epoch: 1}), api.ErrArg},
		{"\x01" + bytesOf(api.Deed{Do: api.Leave, User: "u", Shard: 3}), api.ErrArg},
		{"\x01" + bytesOf(api.Deed{Do: api.Open, User: "u", Shard: 128}), api.ErrArg},
		{"\x01" + bytesOf(api.Deed{Do: api.Enter, User: "u", Epoch: 1}), api.ErrShort},
		{"\x01" + bytesOf(api.Deed{Do: api.Enter, User: "u", Epoch: 1, Bytes: []byte(bobBytes)}), api.ErrForm},
	} {
		l, e := deed.TakeAll([]byte(c.b))
		if e != c.want || e != api.OK && len(l) != 0 {
			t.Errorf("%d: TakeAll(%.60q) = %d deeds, %d, want %d", i, c.b, len(l), e, c.want)
		}
	}
}

// P9.2, P9.4 (M1): TakeAll of PutAll, and of each beginning of that.
func TestTakeAllOfPutAll(t *testing.T) {
	lists := [][]api.Deed{right(), slices.Repeat(right()[:1], 12), {put(600), put(600), put(542)}, {put(0)}}
	for i := range right() {
		lists = append(lists, right()[i:], right()[i:i+1])
	}
	u, _ := deed.PutUser(largest())
	lists = append(lists, []api.Deed{{Do: api.Enter, User: long(24), Epoch: top, Bytes: u}})
	for _, l := range lists {
		b, e := deed.PutAll(l)
		if e != api.OK {
			t.Fatalf("PutAll = %d", e)
		}
		if got, e := deed.TakeAll(b); e != api.OK || !slices.EqualFunc(got, l, sameDeed) {
			t.Errorf("TakeAll of PutAll = %v, %d, want %v", got, e, l)
		}
		for n := range b {
			if got, e := deed.TakeAll(b[:n]); e != api.ErrShort || len(got) != 0 {
				t.Errorf("TakeAll of %d bytes of %d = %v, %d", n, len(b), got, e)
			}
		}
		if len(b) < api.MaxDone {
			if got, e := deed.TakeAll(append(b, 0)); e != api.ErrForm || len(got) != 0 {
				t.Errorf("TakeAll of a byte more = %v, %d", got, e)
			}
		}
	}
}

// P9.4 (M1), P1: what TakeAll takes is what PutAll gives, of bytes of which some are other ones.
func TestTakeAllOfAnyBytes(t *testing.T) {
	r := rand.New(rand.NewSource(94))
	taken := 0
	for range 30000 {
		i := r.Intn(9)
		b, _ := deed.PutAll(right()[i : i+1+r.Intn(9-i)])
		for range r.Intn(3) {
			b[r.Intn(len(b))] = byte(r.Intn(256) >> r.Intn(8))
		}
		if r.Intn(8) == 0 {
			at := r.Intn(len(b))
			b = slices.Delete(b, at, min(len(b), at+r.Intn(4)))
		}
		was := bytes.Clone(b)
		l, e := deed.TakeAll(b)
		if !bytes.Equal(b, was) {
			t.Fatal("TakeAll changed what it was handed")
		}
		if e != api.OK {
			if len(l) != 0 {
				t.Fatalf("beside the error %d stand %v", e, l)
			}
			continue
		}
		taken++
		if back, e := deed.PutAll(l); e != api.OK || !bytes.Equal(back, b) {
			t.Fatalf("PutAll of TakeAll(%q) = %q, %d", b, back, e)
		}
	}
	if taken < 5000 {
		t.Errorf("only %d are taken", taken)
	}
	for range 20000 {
		b := make([]byte, r.Intn(40))
		r.Read(b)
		if len(b) > 0 {
			b[0] %= 16
		}
		deed.TakeAll(b)
		deed.TakeUser(b)
	}
}

// P3: what is taken lies in memory of its own, what is handed in is not kept.
func TestMemory(t *testing.T) {
	l := []api.Deed{right()[3], right()[7], right()[3]}
	b, _ := deed.PutAll(l)
	got, _ := deed.TakeAll(b)
	again, _ := deed.TakeAll(b)
	for i := range b {
		b[i] ^= 0xff
	}
	for i := range got {
		_ = append(got[i].Bytes, "spoilt by what was laid behind"...)
	}
	if !slices.EqualFunc(got, l, sameDeed) || !slices.EqualFunc(again, l, sameDeed) {
		t.Error("what was taken changed with what was handed in")
	}
	got[0].Bytes[0], got[1].Bytes[0] = 'X', 'X'
	if !slices.EqualFunc(again, l, sameDeed) || got[2].Bytes[0] != 'h' {
		t.Error("two answers lie in the same memory")
	}
	u := copiedUser(bob())
	ub, _ := deed.PutUser(u)
	if ub[len(ub)-1] = 9; !sameUser(u, bob()) {
		t.Error("PutUser gave out what it was handed")
	}
	ub[len(ub)-1] = 0
	v, _ := deed.TakeUser(ub)
	w, _ := deed.TakeUser(ub)
	for i := range ub {
		ub[i] ^= 0xff
	}
	v.Boxes[0].Letters[0].Bytes[0] = 'X'
	v.Boxes[1].Name = "X"
	if !sameUser(w, bob()) || string(v.Boxes[0].Letters[0].Bytes) != "Xi" {
		t.Error("a user that was taken changed with something else")
	}
	many := append(make([]api.Deed, 0, 4), l...)
	deed.PutAll(many[:2])
	if !reflect.DeepEqual(many, l) || many[:4][3].Do != api.NoDo {
		t.Error("PutAll changed what it was handed")
	}
}
