package store_test

import (
	"bytes"
	"math"
	"reflect"
	"slices"
	"strconv"
	"strings"
	"testing"

	"pigeonhole/api"
	"pigeonhole/deed"
	"pigeonhole/store"
)

// top is the greatest number.
const top = 1<<32 - 1

// long is n letters.
func long(n int) string { return strings.Repeat("x", n) }

// The deeds.
func open(user string) api.Deed      { return api.Deed{Do: api.Open, User: user} }
func add(user, box string) api.Deed  { return api.Deed{Do: api.Make, User: user, Box: box} }
func drop(user, box string) api.Deed { return api.Deed{Do: api.Drop, User: user, Box: box} }
func leave(user string) api.Deed     { return api.Deed{Do: api.Leave, User: user, Shard: 1, Epoch: 2} }
func put(user, box, p string) api.Deed {
	return api.Deed{Do: api.Put, User: user, Box: box, Bytes: []byte(p)}
}
func turn(user, box string, uid, how int, flags uint8) api.Deed {
	return api.Deed{Do: api.Turn, User: user, Box: box, UID: uid, How: how, Flags: flags}
}
func cut(user, box string, uid int) api.Deed {
	return api.Deed{Do: api.Cut, User: user, Box: box, UID: uid}
}
func rename(user, box, to string) api.Deed {
	return api.Deed{Do: api.Rename, User: user, Box: box, To: to}
}

// enter is an Enter of a user who is right.
func enter(t *testing.T, u api.User) api.Deed {
	t.Helper()
	b, e := deed.PutUser(u)
	if e != api.OK {
		t.Fatal("PutUser", e)
	}
	return api.Deed{Do: api.Enter, User: u.Name, Epoch: 2, Bytes: b}
}

// of is a user with boxes.
func of(name string, valid int, boxes ...api.Box) api.User {
	return api.User{Name: name, Valid: valid, Boxes: boxes}
}

// inbox is an INBOX with letters.
func inbox(next int, l ...api.Letter) api.Box {
	return api.Box{Name: "INBOX", Valid: 1, Next: next, Letters: l}
}

// letter is a letter.
func letter(uid int, flags uint8, p string) api.Letter {
	return api.Letter{UID: uid, Flags: flags, Bytes: []byte(p)}
}

// sameBox: have two boxes the same in them, whether a list is nil or empty?
func sameBox(a, b api.Box) bool {
	return a.Name == b.Name && a.Valid == b.Valid && a.Next == b.Next && slices.EqualFunc(a.Letters, b.Letters, func(l, m api.Letter) bool {
		return l.UID == m.UID && l.Flags == m.Flags && bytes.Equal(l.Bytes, m.Bytes)
	})
}

// sameUser: have two users the same in them?
func sameUser(a, b api.User) bool {
	return a.Name == b.Name && a.Valid == b.Valid && slices.EqualFunc(a.Boxes, b.Boxes, sameBox)
}

// all is all that a store tells of its users.
func all(t *testing.T, s *store.Store) []api.User {
	t.Helper()
	var l []api.User
	for _, name := range s.Users() {
		u, e := s.User(name)
		if e != api.OK || u.Name != name {
			t.Fatalf("User(%s) = %v, %d", name, u, e)
		}
		if e := deed.CheckUser(u); e != api.OK { // P10.5
			t.Fatalf("%v is not right: %d", u, e)
		}
		for _, b := range u.Boxes {
			if got, e := s.Box(name, b.Name); e != api.OK || !sameBox(got, b) {
				t.Fatalf("Box(%s, %s) = %v, %d", name, b.Name, got, e)
			}
		}
		l = append(l, u)
	}
	return l
}

// stays: is all that a store tells as it was?
func stays(t *testing.T, s *store.Store, was []api.User) {
	t.Helper()
	if now := all(t, s); !slices.EqualFunc(now, was, sameUser) {
		t.Errorf("%v became %v", was, now)
	}
}

// done has deeds done, and holds what is told of them to their numbers. Try tells the same ahead of it, and does nothing.
func done(t *testing.T, s *store.Store, numbers []int, l ...api.Deed) {
	t.Helper()
	was := all(t, s)
	if n, at, e := s.Try(l); e != api.OK || at != 0 || !slices.Equal(n, numbers) {
		t.Errorf("Try = %v, %d, %d, want %v", n, at, e, numbers)
	}
	stays(t, s, was)
	if n, at, e := s.Do(l); e != api.OK || at != 0 || !slices.Equal(n, numbers) {
		t.Errorf("Do = %v, %d, %d, want %v", n, at, e, numbers)
	}
}

// refused holds what is told of deeds to an error at a place. Nothing is done (P10.4).
func refused(t *testing.T, s *store.Store, place int, want api.Errno, l ...api.Deed) {
	t.Helper()
	was := all(t, s)
	if n, at, e := s.Try(l); e != want || at != place || len(n) != 0 {
		t.Errorf("Try = %v, %d, %d, want %d, %d", n, at, e, place, want)
	}
	if n, at, e := s.Do(l); e != want || at != place || len(n) != 0 {
		t.Errorf("Do = %v, %d, %d, want %d, %d", n, at, e, place, want)
	}
	stays(t, s, was)
}

// is holds a user to what it is to be.
func is(t *testing.T, s *store.Store, want api.User) {
	t.Helper()
	if u, e := s.User(want.Name); e != api.OK || !sameUser(u, want) {
		t.Errorf("User(%s) = %v, %d, want %v", want.Name, u, e, want)
	}
}

// P10.1, New; P1, nil.
func TestNew(t *testing.T) {
	s := store.New()
	if s == nil || s == store.New() || len(s.Users()) != 0 {
		t.Fatal("a new store is another one, without users")
	}
	done(t, s, []int{1, 1}, open("u"), put("u", "INBOX", "a")) // Example 1
	if len(store.New().Users()) != 0 {
		t.Error("a store knows what was done to another one")
	}
	var none *store.Store
	for _, l := range [][]api.Deed{nil, {open("u")}, make([]api.Deed, 13)} {
		if n, at, e := none.Do(l); len(n) != 0 || at != 0 || e != api.ErrNil {
			t.Errorf("Do of nil = %v, %d, %d", n, at, e)
		}
		if n, at, e := none.Try(l); len(n) != 0 || at != 0 || e != api.ErrNil {
			t.Errorf("Try of nil = %v, %d, %d", n, at, e)
		}
	}
	if u, e := none.User("u"); !reflect.DeepEqual(u, api.User{}) || e != api.ErrNil {
		t.Errorf("User of nil = %v, %d", u, e)
	}
	if b, e := none.Box("u", "INBOX"); !reflect.DeepEqual(b, api.Box{}) || e != api.ErrNil {
		t.Errorf("Box of nil = %v, %d", b, e)
	}
	if len(none.Users()) != 0 || none.Fork() != nil {
		t.Error("nil has users, or a fork")
	}
	// One that no call made has no users, and does not panic.
	other := new(store.Store)
	refused(t, other, 0, api.ErrGone, leave("u"))
	done(t, other, []int{1}, open("u"))
	is(t, other.Fork(), of("u", 1, inbox(1)))
}

// P10.1: how many deeds there may be.
func TestHowMany(t *testing.T) {
	s := store.New()
	refused(t, s, 0, api.ErrArg)
	refused(t, s, 0, api.ErrArg, []api.Deed{}...)
	refused(t, s, 0, api.ErrLimit, make([]api.Deed, 13)...)
	refused(t, s, 0, api.ErrLimit, make([]api.Deed, 1<<12)...)
	done(t, s, []int{1}, open("u"))
	refused(t, s, 0, api.ErrLimit, slices.Repeat([]api.Deed{put("u", "INBOX", "")}, 13)...)
	done(t, s, []int{1, 2, 3, 4, 5, 6, 7, 8, 9, 10, 11, 12}, slices.Repeat([]api.Deed{put("u", "INBOX", "")}, 12)...)
	// All of them may have more bytes than PutAll would take.
	done(t, s, []int{1, 1, 2, 1, 1, 2, 1, 1, 2}, open("a"), put("a", "INBOX", long(600)), put("a", "INBOX", long(600)),
		open("b"), put("b", "INBOX", long(600)), put("b", "INBOX", long(600)),
		open("c"), put("c", "INBOX", long(600)), put("c", "INBOX", long(600)))
}

// P10.1, P10.4 (M3): deeds are done from the left, all or none; of the first error its place is told.
func TestAllOrNothing(t *testing.T) {
	s := store.New()
	done(t, s, []int{1, 2, 1}, open("u"), add("u", "a"), put("u", "a", "x"))
	refused(t, s, 1, api.ErrKnown, open("v"), open("v"))
	refused(t, s, 0, api.ErrGone, put("v", "INBOX", ""), open("v"))
	refused(t, s, 0, api.ErrKnown, open("u"), api.Deed{}) // one behind the other: a deed behind is not asked
	refused(t, s, 1, api.ErrType, open("v"), api.Deed{}, open("u"))
	refused(t, s, 11, api.ErrGone, append(slices.Repeat([]api.Deed{put("u", "INBOX", "")}, 11), cut("u", "INBOX", 12))...)
	refused(t, s, 7, api.ErrState, leave("u"), open("u"), add("u", "b"), rename("u", "b", "c"), put("u", "c", "y"), turn("u", "c", 1, api.Lay, 1), cut("u", "c", 1), drop("u", "INBOX"))
	refused(t, s, 3, api.ErrGone, drop("u", "a"), add("u", "a"), put("u", "a", ""), cut("u", "a", 2))
	is(t, s, of("u", 2, inbox(1), api.Box{Name: "a", Valid: 2, Next: 2, Letters: []api.Letter{letter(1, 0, "x")}}))
	// Each deed finds what those ahead of it left.
	done(t, s, []int{0, 1, 2, 1, 1, 0, 0, 3, 0}, leave("u"), open("u"), add("u", "b"), rename("u", "b", "c"), put("u", "c", "y"), turn("u", "c", 1, api.Lay, 1), cut("u", "c", 1), add("u", "b"), drop("u", "c"))
	is(t, s, of("u", 3, inbox(1), api.Box{Name: "b", Valid: 3, Next: 1}))
}

// P10.2: deed.Check's error comes ahead of what the store knows.
func TestWrongDeeds(t *testing.T) {
	s := store.New()
	done(t, s, []int{1}, open("u"))
	for i, c := range []struct {
		d    api.Deed
		want api.Errno
	}{
		{api.Deed{}, api.ErrType}, {api.Deed{Do: api.Leave + 1, User: "u"}, api.ErrType}, {api.Deed{Do: math.MinInt, User: "u"}, api.ErrType},
		{open(""), api.ErrForm}, {open("U"), api.ErrForm}, {api.Deed{Do: api.Open, User: "u", UID: 1}, api.ErrArg},
		{add("v", "inbox"), api.ErrForm}, {add("u", "inbox"), api.ErrForm}, {add("u", ""), api.ErrForm}, {drop("u", "inbox"), api.ErrForm},
		{rename("u", "INBOX", ""), api.ErrForm}, {rename("u", "INBOX", "inbox"), api.ErrForm}, {rename("u", "a", long(25)), api.ErrForm},
		{put("v", "a", long(601)), api.ErrLimit}, {api.Deed{Do: api.Put, User: "v", Box: "a", Flags: 32}, api.ErrArg},
		{turn("v", "a", 0, 0, 0), api.ErrArg}, {turn("v", "a", 1, 3, 0), api.ErrArg}, {cut("v", "a", top+1), api.ErrArg},
		{api.Deed{Do: api.Leave, User: "v"}, api.ErrArg}, {api.Deed{Do: api.Leave, User: "v", Shard: 4, Epoch: 1}, api.ErrArg},
		{api.Deed{Do: api.Enter, User: "u", Epoch: 1}, api.ErrShort}, {api.Deed{Do: api.Enter, User: "u"}, api.ErrArg},
		{api.Deed{Do: api.Enter, User: "u", Epoch: 1, Bytes: enter(t, of("v", 1, inbox(1))).Bytes}, api.ErrForm},
	} {
		refused(t, s, 0, c.want, c.d)
		if t.Failed() {
			t.Fatal(i)
		}
	}
}

// P10.2, Open
func TestOpen(t *testing.T) {
	s := store.New()
	for i := range 16 {
		name := "u" + strconv.Itoa(i)
		done(t, s, []int{1}, open(name))
		is(t, s, of(name, 1, inbox(1)))
		refused(t, s, 0, api.ErrKnown, open(name))
	}
	refused(t, s, 0, api.ErrFull, open("v"))
	refused(t, s, 0, api.ErrKnown, open("u7")) // ahead of what is full
	done(t, s, []int{0, 1}, leave("u3"), open("v"))
	refused(t, s, 0, api.ErrFull, open("u3"))
	if n := len(s.Users()); n != 16 {
		t.Errorf("there are %d users", n)
	}
}

// P10.2, Make
func TestMake(t *testing.T) {
	s := store.New()
	refused(t, s, 0, api.ErrGone, add("u", "a"))
	done(t, s, []int{1, 2, 3, 4, 5}, open("u"), add("u", "b"), add("u", "A/x"), add("u", "ä"), add("u", "a"))
	refused(t, s, 0, api.ErrKnown, add("u", "INBOX"))
	refused(t, s, 0, api.ErrKnown, add("u", "b"))
	done(t, s, []int{6}, add("u", "B"))
	refused(t, s, 0, api.ErrFull, add("u", "c"))
	refused(t, s, 0, api.ErrKnown, add("u", "b")) // ahead of what is full
	at := func(name string, valid int) api.Box { return api.Box{Name: name, Valid: valid, Next: 1} }
	is(t, s, of("u", 6, at("A/x", 3), at("B", 6), inbox(1), at("a", 5), at("b", 2), at("ä", 4)))
	// A box that was dropped makes room, but leaves no number.
	done(t, s, []int{0, 7, 0, 8}, drop("u", "b"), add("u", "b"), drop("u", "b"), add("u", "b"))
	// The numbers end.
	done(t, s, []int{0, top, 0}, enter(t, of("v", top-1, inbox(1))), add("v", "a"), drop("v", "a"))
	refused(t, s, 0, api.ErrFull, add("v", "a"))
	refused(t, s, 0, api.ErrKnown, add("v", "INBOX"))
}

// P10.2, Drop
func TestDrop(t *testing.T) {
	s := store.New()
	refused(t, s, 0, api.ErrGone, drop("u", "a"))
	refused(t, s, 0, api.ErrGone, drop("u", "INBOX")) // ahead of what is an INBOX
	done(t, s, []int{1, 2, 3, 1}, open("u"), add("u", "a"), add("u", "a/b"), put("u", "a", "x"))
	refused(t, s, 0, api.ErrGone, drop("u", "b"))
	refused(t, s, 0, api.ErrGone, drop("u", "A"))
	refused(t, s, 0, api.ErrState, drop("u", "INBOX"))
	done(t, s, []int{0}, drop("u", "a"))
	is(t, s, of("u", 3, inbox(1), api.Box{Name: "a/b", Valid: 3, Next: 1})) // what is under it stays
	refused(t, s, 0, api.ErrGone, drop("u", "a"))
	done(t, s, []int{4}, add("u", "a"))
	is(t, s, of("u", 4, inbox(1), api.Box{Name: "a", Valid: 4, Next: 1}, api.Box{Name: "a/b", Valid: 3, Next: 1}))
}

// having is a store in which u has boxes of these names (and an INBOX), of the Valids from 2 on, each with a letter that is its name.
func having(t *testing.T, names ...string) *store.Store {
	t.Helper()
	s := store.New()
	done(t, s, []int{1}, open("u"))
	for i, name := range names {
		done(t, s, []int{i + 2, 1}, add("u", name), put("u", name, name))
	}
	return s
}

// P10.2, Rename
func TestRename(t *testing.T) {
	twenty := long(20)
	for _, c := range []struct {
		names    []string
		from, to string
		count    int
		want     api.Errno
		now      []string // what the boxes are called then, in the order of names
	}{
		{[]string{"a"}, "a", "b", 1, api.OK, []string{"b"}},
		{[]string{"a", "b"}, "a", "c", 1, api.OK, []string{"c", "b"}},
		{[]string{"b", "c", "a"}, "c", "Z", 1, api.OK, []string{"b", "Z", "a"}}, // the order becomes another one
		{[]string{"a", "a/b", "a/b/c", "ab", "b/a"}, "a", "x/y", 3, api.OK, []string{"x/y", "x/y/b", "x/y/b/c", "ab", "b/a"}},
		{[]string{"a", "a/b", "a/b/c", "ab"}, "a/b", "z", 2, api.OK, []string{"a", "z", "z/c", "ab"}},
		{[]string{"a", "a/", "a//", "a.b", "/a"}, "a", "q", 3, api.OK, []string{"q", "q/", "q//", "a.b", "/a"}},
		{[]string{"a", "A", "A/b"}, "a", "b", 1, api.OK, []string{"b", "A", "A/b"}},
		{[]string{"a", "a/b"}, "a", "a", 2, api.OK, []string{"a", "a/b"}}, // no two have one name
		{[]string{"a"}, "a", "a/b", 1, api.OK, []string{"a/b"}},
		{[]string{"a", "a/b"}, "a", "a/b", 2, api.OK, []string{"a/b", "a/b/b"}},
		{[]string{"a", "a/b", "a/b/b"}, "a", "a/b", 3, api.OK, []string{"a/b", "a/b/b", "a/b/b/b"}},
		{[]string{"a/b"}, "a/b", "a", 1, api.OK, []string{"a"}},
		{[]string{"a/b", "a/b/b"}, "a/b", "a", 2, api.OK, []string{"a", "a/b"}}, // into the place of one that goes away itself
		{[]string{"a"}, "a", "INBOX/a", 1, api.OK, []string{"INBOX/a"}},
		{[]string{"INBOX/a", "INBOX/a/b"}, "INBOX/a", "c", 2, api.OK, []string{"c", "c/b"}},
		{[]string{"ä", "ä/b"}, "ä", "€", 2, api.OK, []string{"€", "€/b"}},
		{[]string{"a"}, "a", twenty + "wxyz", 1, api.OK, []string{twenty + "wxyz"}},
		{[]string{"a", "a/bc"}, "a", twenty + "z", 2, api.OK, []string{twenty + "z", twenty + "z/bc"}}, // just 24
		{[]string{"a", "a/bcd"}, "a", twenty + "z", 0, api.ErrLimit, nil},
		{[]string{"a", "a/b"}, "a", long(24), 0, api.ErrLimit, nil},
		{[]string{"a", "a/b", twenty + "z"}, "a", twenty + "z/", 2, api.OK, []string{twenty + "z/", twenty + "z//b", twenty + "z"}},
		{[]string{"a", "b"}, "a", "b", 0, api.ErrKnown, nil},
		{[]string{"a"}, "a", "INBOX", 0, api.ErrKnown, nil},
		{[]string{"a", "a/c", "b/c"}, "a", "b", 0, api.ErrKnown, nil}, // b itself is not there
		{[]string{"a", "a/b"}, "a/b", "a", 0, api.ErrKnown, nil},
		{[]string{"a", "a/bcd", long(24)}, "a", long(24), 0, api.ErrLimit, nil}, // ahead of what is known
		{[]string{"a", "bb/c", "a/c", "a/" + long(22)}, "a", "bb", 0, api.ErrLimit, nil},
		{[]string{"a/b"}, "a", "c", 0, api.ErrGone, nil}, // though one is under it
		{[]string{"a"}, "b", "c", 0, api.ErrGone, nil},
		{[]string{"a"}, "b", "a", 0, api.ErrGone, nil},
		{[]string{"a"}, "INBOX", "c", 0, api.ErrState, nil},
		{[]string{"a"}, "INBOX", "a", 0, api.ErrState, nil},
		{[]string{"a", "INBOX/" + long(10)}, "INBOX", twenty, 0, api.ErrState, nil},
	} {
		s := having(t, c.names...)
		if c.want != api.OK {
			refused(t, s, 0, c.want, rename("u", c.from, c.to))
			continue
		}
		done(t, s, []int{c.count}, rename("u", c.from, c.to))
		want := of("u", len(c.names)+1, inbox(1))
		for i, name := range c.now {
			want.Boxes = append(want.Boxes, api.Box{Name: name, Valid: i + 2, Next: 2, Letters: []api.Letter{letter(1, 0, c.names[i])}})
		}
		slices.SortFunc(want.Boxes, func(a, b api.Box) int { return strings.Compare(a.Name, b.Name) })
		is(t, s, want)
	}
	refused(t, store.New(), 0, api.ErrGone, rename("u", "INBOX", "a"))
}

// P10.2, Put
func TestPut(t *testing.T) {
	s := store.New()
	refused(t, s, 0, api.ErrGone, put("u", "INBOX", ""))
	done(t, s, []int{1, 2}, open("u"), add("u", "a"))
	refused(t, s, 0, api.ErrGone, put("u", "b", ""))
	seen := put("u", "INBOX", "hello")
	seen.Flags = 31
	done(t, s, []int{1, 2, 1}, seen, put("u", "INBOX", ""), put("u", "a", "\x00\xff"))
	is(t, s, of("u", 2, inbox(3, letter(1, 31, "hello"), letter(2, 0, "")), api.Box{Name: "a", Valid: 2, Next: 2, Letters: []api.Letter{letter(1, 0, "\x00\xff")}}))
	// A number that was given is not given again.
	done(t, s, []int{0, 3, 0, 0, 4}, cut("u", "INBOX", 2), put("u", "INBOX", "x"), cut("u", "INBOX", 3), cut("u", "INBOX", 1), put("u", "INBOX", "y"))
	is(t, s, of("u", 2, inbox(5, letter(4, 0, "y")), api.Box{Name: "a", Valid: 2, Next: 2, Letters: []api.Letter{letter(1, 0, "\x00\xff")}}))
}

// P10.2, Put: a box, and a user, that are full.
func TestPutFull(t *testing.T) {
	some := func(n int) []api.Letter {
		var l []api.Letter
		for i := range n {
			l = append(l, letter(i+1, 0, ""))
		}
		return l
	}
	box := func(next int, l ...api.Letter) api.Box { return api.Box{Name: "a", Valid: 2, Next: next, Letters: l} }
	for i, c := range []struct {
		u    api.User
		box  string
		size int
		want api.Errno
	}{
		{of("u", 2, inbox(40, some(31)...), box(1)), "INBOX", 0, api.OK},
		{of("u", 2, inbox(40, some(32)...), box(1)), "INBOX", 0, api.ErrFull},
		{of("u", 2, inbox(40, some(32)...), box(1)), "a", 600, api.OK},
		{of("u", 2, inbox(top-1), box(1)), "INBOX", 0, api.OK},
		{of("u", 2, inbox(top), box(1)), "INBOX", 0, api.ErrFull},
		{of("u", 2, inbox(top), box(1)), "a", 0, api.OK},
		{of("u", 2, inbox(40, some(32)...), box(40, some(7)...)), "a", 0, api.OK},
		{of("u", 2, inbox(40, some(32)...), box(40, some(8)...)), "a", 0, api.ErrFull},
		{of("u", 2, inbox(40, some(9)...), box(40, some(31)...)), "a", 0, api.ErrFull},
		{of("u", 2, inbox(40, some(9)...), box(40, some(31)...)), "INBOX", 0, api.ErrFull},
		{of("u", 2, inbox(9, letter(1, 0, long(600))), box(1)), "INBOX", 600, api.OK},
		{of("u", 2, inbox(9, letter(1, 0, long(600)), letter(2, 0, "x")), box(1)), "INBOX", 599, api.OK},
		{of("u", 2, inbox(9, letter(1, 0, long(600)), letter(2, 0, "x")), box(1)), "INBOX", 600, api.ErrFull},
		{of("u", 2, inbox(9, letter(1, 0, long(600))), box(9, letter(3, 0, long(600)))), "a", 0, api.OK},
		{of("u", 2, inbox(9, letter(1, 0, long(600))), box(9, letter(3, 0, long(600)))), "a", 1, api.ErrFull},
		{of("u", 2, inbox(9, letter(1, 0, long(600))), box(9, letter(3, 0, long(600)))), "INBOX", 1, api.ErrFull},
	} {
		s := store.New()
		done(t, s, []int{0, 1}, enter(t, c.u), open("v"))
		d := put("u", c.box, long(c.size))
		if c.want != api.OK {
			refused(t, s, 0, c.want, d)
		} else if _, _, e := s.Do([]api.Deed{d}); e != api.OK {
			t.Errorf("%d: Put = %d", i, e)
		}
		done(t, s, []int{1, 2}, put("v", "INBOX", long(600)), put("v", "INBOX", long(600))) // what one has is not the other one's
	}
	// What is cut makes room.
	s := store.New()
	done(t, s, []int{1, 1, 2}, open("u"), put("u", "INBOX", long(600)), put("u", "INBOX", long(600)))
	refused(t, s, 1, api.ErrFull, put("u", "INBOX", ""), put("u", "INBOX", "x"))
	done(t, s, []int{0, 3, 2, 0}, cut("u", "INBOX", 1), put("u", "INBOX", long(600)), add("u", "a"), cut("u", "INBOX", 2))
	done(t, s, []int{1, 0, 4}, put("u", "a", long(600)), drop("u", "a"), put("u", "INBOX", long(600)))
}

// P10.2, Turn and Cut
func TestTurnAndCut(t *testing.T) {
	s := store.New()
	refused(t, s, 0, api.ErrGone, turn("u", "INBOX", 1, api.Lay, 0))
	refused(t, s, 0, api.ErrGone, cut("u", "INBOX", 1))
	done(t, s, []int{1, 1, 2, 2}, open("u"), put("u", "INBOX", "a"), put("u", "INBOX", "b"), add("u", "x"))
	for _, d := range []api.Deed{
		turn("u", "y", 1, api.Lay, 0), cut("u", "y", 1), turn("u", "x", 1, api.Lay, 0), cut("u", "x", 1),
		turn("u", "INBOX", 3, api.Lay, 0), cut("u", "INBOX", 3), turn("u", "INBOX", top, api.Lay, 0), cut("u", "INBOX", top),
	} {
		refused(t, s, 0, api.ErrGone, d)
	}
	flags := func(a, b uint8) {
		t.Helper()
		is(t, s, of("u", 2, inbox(3, letter(1, a, "a"), letter(2, b, "b")), api.Box{Name: "x", Valid: 2, Next: 1}))
	}
	done(t, s, []int{0}, turn("u", "INBOX", 2, api.Lay, 5))
	flags(0, 5)
	done(t, s, []int{0}, turn("u", "INBOX", 2, api.More, 3))
	flags(0, 7)
	done(t, s, []int{0, 0}, turn("u", "INBOX", 2, api.Less, 21), turn("u", "INBOX", 1, api.Lay, 31))
	flags(31, 2)
	done(t, s, []int{0}, cut("u", "INBOX", 1))
	is(t, s, of("u", 2, inbox(3, letter(2, 2, "b")), api.Box{Name: "x", Valid: 2, Next: 1}))
	refused(t, s, 0, api.ErrGone, cut("u", "INBOX", 1))
	refused(t, s, 0, api.ErrGone, turn("u", "INBOX", 1, api.Lay, 0))
}

// P10.2, P10.7 (M4): Enter and Leave.
func TestEnterAndLeave(t *testing.T) {
	u := of("u", 9, api.Box{Name: "A", Valid: 9, Next: top}, inbox(300, letter(2, 31, "x\x00\xff"), letter(258, 0, "")), api.Box{Name: "a/ä", Valid: 2, Next: 2})
	s := store.New()
	refused(t, s, 0, api.ErrGone, leave("u"))
	done(t, s, []int{0}, enter(t, u))
	is(t, s, u)
	refused(t, s, 0, api.ErrKnown, enter(t, u))
	refused(t, s, 0, api.ErrKnown, open("u"))
	got, _ := s.User("u")
	back := enter(t, got)
	done(t, s, []int{0}, leave("u"))
	refused(t, s, 0, api.ErrGone, leave("u"))
	if _, e := s.User("u"); e != api.ErrGone || len(s.Users()) != 0 {
		t.Error("who left is there")
	}
	done(t, s, []int{0, 300, 10}, back, put("u", "INBOX", "y"), add("u", "b"))
	other := store.New()
	done(t, other, []int{0}, back)
	if now, e := other.User("u"); e != api.OK || !reflect.DeepEqual(now, got) {
		t.Errorf("who left as %v entered as %v, %d", got, now, e)
	}
	for i := range 15 {
		done(t, other, []int{1}, open("v"+strconv.Itoa(i)))
	}
	refused(t, other, 0, api.ErrFull, enter(t, of("w", 1, inbox(1))))
	refused(t, other, 0, api.ErrKnown, enter(t, of("v3", 1, inbox(1)))) // ahead of what is full
	done(t, other, []int{0, 0}, leave("v3"), enter(t, of("w", 1, inbox(1))))
	refused(t, other, 0, api.ErrFull, enter(t, of("v3", 1, inbox(1))))
}

// P10.7 (M4): however lists became empty, who left and entered is told as before.
func TestEmptyLists(t *testing.T) {
	s := store.New()
	none := put("u", "INBOX", "")
	none.Bytes = []byte{}
	done(t, s, []int{1, 2, 1, 1, 0, 1, 2}, open("u"), add("u", "a"), put("u", "a", "x"), none, cut("u", "a", 1), rename("u", "a", "b"), put("u", "INBOX", ""))
	was, _ := s.User("u")
	done(t, s, []int{0, 0}, leave("u"), enter(t, was))
	if now, _ := s.User("u"); !reflect.DeepEqual(was, now) {
		t.Errorf("%#v became %#v", was, now)
	}
}

// P10.3: Users, User, Box
func TestTold(t *testing.T) {
	s := store.New()
	names := []string{"bob", "a.b", "a", "ab", "0", "_", "-", "z", "a_b"}
	for _, name := range names {
		done(t, s, []int{1}, open(name))
	}
	slices.Sort(names)
	for range 20 {
		if got := s.Users(); !slices.Equal(got, names) {
			t.Fatalf("Users = %v", got)
		}
	}
	done(t, s, []int{2, 1}, add("a", "x"), put("a", "x", "hello"))
	if b, e := s.Box("a", "x"); e != api.OK || !sameBox(b, api.Box{Name: "x", Valid: 2, Next: 2, Letters: []api.Letter{letter(1, 0, "hello")}}) {
		t.Errorf("Box = %v, %d", b, e)
	}
	for _, name := range []string{"", "A", "aa", "a ", "\xff", long(1 << 16)} {
		if u, e := s.User(name); e != api.ErrGone || !reflect.DeepEqual(u, api.User{}) {
			t.Errorf("User(%.20q) = %v, %d", name, u, e)
		}
		if b, e := s.Box(name, "INBOX"); e != api.ErrGone || !reflect.DeepEqual(b, api.Box{}) {
			t.Errorf("Box(%.20q, INBOX) = %v, %d", name, b, e)
		}
		if b, e := s.Box("a", name); e != api.ErrGone || !reflect.DeepEqual(b, api.Box{}) {
			t.Errorf("Box(a, %.20q) = %v, %d", name, b, e)
		}
	}
	for _, c := range [][2]string{{"b", "x"}, {"bob", "x"}, {"a", "inbox"}, {"a", "X"}, {"", ""}} {
		if b, e := s.Box(c[0], c[1]); e != api.ErrGone || !reflect.DeepEqual(b, api.Box{}) {
			t.Errorf("Box(%q) = %v, %d", c, b, e)
		}
	}
}

// P10.3, P4: a fork is another one, alike; what becomes of the one changes nothing of the other one.
func TestFork(t *testing.T) {
	s := having(t, "a", "b", "b/c")
	done(t, s, []int{1, 1}, open("v"), put("v", "INBOX", "v"))
	was := all(t, s)
	each := [][]api.Deed{
		{put("u", "a", "more")}, {put("u", "INBOX", "more")}, {turn("u", "a", 1, api.Lay, 31)}, {cut("u", "a", 1)}, {add("u", "A")}, {add("u", "z")}, {drop("u", "a")},
		{rename("u", "b", "A")}, {rename("u", "a", "z")}, {leave("u")}, {leave("v")}, {open("w")}, {enter(t, of("w", 1, inbox(1)))},
		{leave("u"), open("u")}, {put("u", "a", "1"), cut("u", "a", 1), put("v", "INBOX", "2")},
	}
	for i, l := range each {
		f := s.Fork()
		if f == nil || f == s || !slices.EqualFunc(all(t, f), was, sameUser) {
			t.Fatalf("%d: a fork is another one, and alike", i)
		}
		g := f.Fork()
		if _, _, e := f.Do(l); e != api.OK {
			t.Fatalf("%d: Do = %d", i, e)
		}
		stays(t, s, was)
		stays(t, g, was)
		now := all(t, f)
		// The others become something else, each of them.
		for j, m := range each {
			h := g.Fork()
			if _, _, e := h.Do(m); e != api.OK {
				t.Fatalf("%d: Do = %d", j, e)
			}
			stays(t, f, now)
			stays(t, g, was)
		}
	}
	done(t, s, []int{0}, leave("u"))
	if len(store.New().Fork().Users()) != 0 {
		t.Error("a fork of one without users has some")
	}
}

// P4: two that made room for more letters, or boxes, from the same list do not meet in it.
func TestForksGrow(t *testing.T) {
	s := store.New()
	done(t, s, []int{1}, open("u"))
	for i := range 5 {
		a, b := s.Fork(), s.Fork()
		done(t, a, []int{i + 1}, put("u", "INBOX", "a"))
		done(t, b, []int{i + 1}, put("u", "INBOX", "b"))
		done(t, a, []int{i + 2}, add("u", "a"+strconv.Itoa(i)))
		done(t, b, []int{i + 2}, add("u", "b"+strconv.Itoa(i)))
		x, _ := a.User("u")
		y, _ := b.User("u")
		if string(x.Boxes[0].Letters[i].Bytes) != "a" || string(y.Boxes[0].Letters[i].Bytes) != "b" {
			t.Fatal("a letter became another one's")
		}
		if x.Boxes[i+1].Name != "a"+strconv.Itoa(i) || y.Boxes[len(y.Boxes)-1].Name[0] != 'b' {
			t.Fatal("a box became another one's")
		}
		if s = a; i == 4 {
			break
		}
	}
}

// P3: what is handed in stays and is not kept, what is answered is new.
func TestMemory(t *testing.T) {
	s := store.New()
	p := append(make([]byte, 0, 8), "new"...)
	entry := enter(t, of("v", 1, inbox(2, letter(1, 0, "old"))))
	l := append(make([]api.Deed, 0, 8), open("u"), api.Deed{Do: api.Put, User: "u", Box: "INBOX", Bytes: p}, entry)
	was := slices.Clone(l)
	for i := range was {
		was[i].Bytes = slices.Clone(l[i].Bytes)
	}
	done(t, s, []int{1, 1, 0}, l...)
	if !reflect.DeepEqual(l, was) || l[:4][3].Do != api.NoDo || string(p[:8]) != "new\x00\x00\x00\x00\x00" {
		t.Error("what was handed in changed")
	}
	for i := range entry.Bytes {
		entry.Bytes[i] ^= 0xff
	}
	p[0], l[0].User = 'X', "X"
	is(t, s, of("u", 1, inbox(2, letter(1, 0, "new"))))
	is(t, s, of("v", 1, inbox(2, letter(1, 0, "old"))))
	u, _ := s.User("u")
	u2, _ := s.User("u")
	b, _ := s.Box("u", "INBOX")
	names := s.Users()
	numbers, _, _ := s.Try([]api.Deed{put("u", "INBOX", "")})
	numbers[0], names[0] = 99, "X"
	_ = append(append(u.Boxes, api.Box{})[0].Letters, api.Letter{UID: 99})
	u.Boxes[0].Letters[0].Bytes[0] = 'Y'
	u.Boxes[0].Letters[0].UID = 98
	u.Boxes[0].Name = "Y"
	b.Letters[0].Bytes[0] = 'Z'
	b.Letters[0].Flags = 9
	is(t, s, of("u", 1, inbox(2, letter(1, 0, "new"))))
	if !sameUser(u2, of("u", 1, inbox(2, letter(1, 0, "new")))) || u.Boxes[0].Letters[0].Bytes[0] != 'Y' {
		t.Error("two answers lie in the same memory")
	}
	done(t, s, []int{0, 2}, turn("u", "INBOX", 1, api.Lay, 5), put("u", "INBOX", "z"))
	if !sameUser(u2, of("u", 1, inbox(2, letter(1, 0, "new")))) || !slices.Equal(s.Users(), []string{"u", "v"}) {
		t.Error("what was answered changed")
	}
}
