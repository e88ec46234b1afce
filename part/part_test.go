package part_test

import (
	"bytes"
	"math"
	"reflect"
	"strconv"
	"strings"
	"testing"

	"pigeonhole/api"
	"pigeonhole/deed"
	"pigeonhole/part"
	"pigeonhole/place"
)

const (
	top  = 1<<32 - 1 // the greatest number
	life = 1<<31 - 1 // the greatest life, and number in it
)

// at is the n-th user whose home among three shards is this one.
func at(shard, n int) string {
	for i := 0; ; i++ {
		s := "u" + strconv.Itoa(i)
		if home, _ := place.Home(s, 3); home == shard {
			if n == 0 {
				return s
			}
			n--
		}
	}
}

// ann, bob and cat are at home at the shard 1 of three; dan is at 0, eve at 2.
var ann, bob, cat, dan, eve = at(1, 0), at(1, 1), at(1, 2), at(0, 0), at(2, 0)

func tx(n int) api.Tx { return api.Tx{Node: 3, Boot: 1, N: n} }

func open(user string) api.Deed     { return api.Deed{Do: api.Open, User: user} }
func add(user, box string) api.Deed { return api.Deed{Do: api.Make, User: user, Box: box} }
func put(user, p string) api.Deed {
	return api.Deed{Do: api.Put, User: user, Box: "INBOX", Flags: api.Seen, Bytes: []byte(p)}
}
func cut(user string, uid int) api.Deed {
	return api.Deed{Do: api.Cut, User: user, Box: "INBOX", UID: uid}
}
func leave(user string, shard, epoch int) api.Deed {
	return api.Deed{Do: api.Leave, User: user, Shard: shard, Epoch: epoch}
}
func enter(u api.User, epoch int) api.Deed {
	b, _ := deed.PutUser(u)
	return api.Deed{Do: api.Enter, User: u.Name, Epoch: epoch, Bytes: b}
}

// fresh is a user as it is at first; letters are put into its INBOX.
func fresh(name string, letters ...string) api.User {
	b := api.Box{Name: "INBOX", Valid: 1, Next: 1 + len(letters)}
	for i, p := range letters {
		b.Letters = append(b.Letters, api.Letter{UID: i + 1, Flags: api.Seen, Bytes: []byte(p)})
	}
	return api.User{Name: name, Valid: 1, Boxes: []api.Box{b}}
}

// job is a part for the shard 1 of the transaction n; its users are thought to be there by an epoch.
func job(n, epoch int, l ...api.Deed) api.Part {
	x := api.Part{Tx: tx(n), Peers: []int{0, 1}, Deeds: l}
	for range l {
		x.Epochs = append(x.Epochs, epoch)
	}
	return x
}

// shard is the shard 1 of three.
func shard(t *testing.T) *part.Part {
	t.Helper()
	p, e := part.New(1, 3)
	if p == nil || e != api.OK {
		t.Fatalf("New(1, 3) = %v, %d", p, e)
	}
	return p
}

// redo has a record redone that is taken.
func redo(t *testing.T, p *part.Part, rec []byte) {
	t.Helper()
	if e := p.Redo(rec); e != api.OK {
		t.Fatalf("Redo(%q) = %d", rec, e)
	}
}

// hold has a part be held, and answers the vote.
func hold(t *testing.T, p *part.Part, x api.Part) api.Vote {
	t.Helper()
	v, rec := p.Prepare(x)
	if v.Errno != api.OK || len(rec) == 0 {
		t.Fatalf("Prepare(%v) = %v, %q", x, v, rec)
	}
	redo(t, p, rec)
	return v
}

// decide has a transaction be done, or dropped.
func decide(t *testing.T, p *part.Part, n int, done bool) {
	t.Helper()
	rec, e := p.Decide(tx(n), done)
	if e != api.OK || len(rec) == 0 {
		t.Fatalf("Decide(%d, %v) = %q, %d", n, done, rec, e)
	}
	redo(t, p, rec)
}

// do has a part be held, and done.
func do(t *testing.T, p *part.Part, x api.Part) {
	t.Helper()
	hold(t, p, x)
	decide(t, p, x.Tx.N, true)
}

// folk is the shard 1 with ann and bob, by the transactions 1 and 2.
func folk(t *testing.T) *part.Part {
	t.Helper()
	p := shard(t)
	do(t, p, job(1, 0, open(ann)))
	do(t, p, job(2, 0, open(bob)))
	return p
}

// sameUser: are users alike, but for lists that are nil and lists that are empty?
func sameUser(a, b api.User) bool {
	x, e := deed.PutUser(a)
	y, f := deed.PutUser(b)
	return e == f && bytes.Equal(x, y) && a.Name == b.Name
}

// sameParts: are parts alike, but for lists that are nil and lists that are empty?
func sameParts(a, b []api.Part) bool {
	if len(a) != len(b) {
		return false
	}
	for i := range a {
		x, e := deed.PutAll(a[i].Deeds)
		y, f := deed.PutAll(b[i].Deeds)
		if a[i].Tx != b[i].Tx || !reflect.DeepEqual(a[i].Peers, b[i].Peers) || !reflect.DeepEqual(a[i].Epochs, b[i].Epochs) || e != f || !bytes.Equal(x, y) {
			return false
		}
	}
	return true
}

// sameVote: are votes alike, but for lists that are nil and lists that are empty?
func sameVote(a, b api.Vote) bool {
	return a.Errno == b.Errno && a.Seat == b.Seat && len(a.Numbers) == len(b.Numbers) && (len(a.Numbers) == 0 || reflect.DeepEqual(a.Numbers, b.Numbers)) && bytes.Equal(a.Bytes, b.Bytes)
}

// told is all that a shard tells of itself.
type told struct {
	snapshot string
	seats    []api.Seat
	held     []api.Part
	users    []string
}

func all(t *testing.T, p *part.Part) told {
	t.Helper()
	var x told
	for _, rec := range p.Snapshot() {
		x.snapshot += strconv.Quote(string(rec)) + "\n"
	}
	x.seats, x.held = p.Seats(), p.Held()
	for _, s := range x.seats {
		if u, e := p.Look(s.User); e == api.OK {
			b, e := deed.PutUser(u)
			if e != api.OK || u.Name != s.User {
				t.Fatalf("Look(%s) = %v, which is not right: %d", s.User, u, e)
			}
			x.users = append(x.users, string(b))
		}
	}
	return x
}

// stays tells whether a shard is as it was.
func stays(t *testing.T, p *part.Part, was told) {
	t.Helper()
	if now := all(t, p); !reflect.DeepEqual(now, was) {
		t.Fatalf("it was\n%v\nand is\n%v", was, now)
	}
}

// refused has a part be refused.
func refused(t *testing.T, p *part.Part, x api.Part, want api.Vote) {
	t.Helper()
	was := all(t, p)
	if v, rec := p.Prepare(x); !sameVote(v, want) || len(rec) != 0 {
		t.Errorf("Prepare(%v) = %v, %q, want %v", x, v, rec, want)
	}
	stays(t, p, was)
}

// no is the vote of an error alone.
func no(e api.Errno) api.Vote { return api.Vote{Errno: e} }

// P11.1
func TestNew(t *testing.T) {
	for shard := -2; shard < 7; shard++ {
		for shards := -2; shards < 7; shards++ {
			want := api.ErrArg
			if shards >= 1 && shards <= 4 && shard >= 0 && shard < shards {
				want = api.OK
			}
			p, e := part.New(shard, shards)
			if e != want || (p != nil) != (want == api.OK) {
				t.Errorf("New(%d, %d) = %v, %d", shard, shards, p, e)
			}
			if len(p.Held())+len(p.Seats())+len(p.Snapshot()) != 0 || p.Fate(tx(1)) != api.Unknown {
				t.Errorf("New(%d, %d) is not empty", shard, shards)
			}
		}
	}
	for _, c := range [][2]int{{math.MaxInt, 1}, {0, math.MaxInt}, {math.MinInt, 1}, {0, math.MinInt}, {math.MaxInt, math.MaxInt}} {
		if p, e := part.New(c[0], c[1]); p != nil || e != api.ErrArg {
			t.Errorf("New%v = %v, %d", c, p, e)
		}
	}
}

// The chapter's example.
func TestExample(t *testing.T) {
	p := shard(t)
	v, rec := p.Prepare(job(1, 0, open(ann)))
	if !sameVote(v, api.Vote{Numbers: []int{1}}) {
		t.Fatalf("the vote is %v", v)
	}
	redo(t, p, rec)
	rec, e := p.Decide(tx(1), true)
	if e != api.OK {
		t.Fatalf("Decide = %d", e)
	}
	redo(t, p, rec)
	if l := p.Seats(); !reflect.DeepEqual(l, []api.Seat{{User: ann, Shard: 1, Epoch: 1}}) {
		t.Errorf("Seats = %v", l)
	}
	if u, s, e := p.Read(ann, 1); !sameUser(u, fresh(ann)) || s != (api.Seat{}) || e != api.OK {
		t.Errorf("Read = %v, %v, %d", u, s, e)
	}
}

// P11.2: what is wrong with a part, whatever the shard knows.
func TestPrepareForm(t *testing.T) {
	p := folk(t)
	for i, c := range []struct {
		want   api.Errno
		change func(*api.Part)
	}{
		{api.OK, func(x *api.Part) {}},
		{api.OK, func(x *api.Part) { x.Tx = api.Tx{Node: 0, Boot: life, N: life} }},
		{api.OK, func(x *api.Part) { x.Tx = api.Tx{Node: 255, Boot: 1, N: 1} }},
		{api.ErrArg, func(x *api.Part) { x.Tx.Node = -1 }},
		{api.ErrArg, func(x *api.Part) { x.Tx.Node = 256 }},
		{api.ErrArg, func(x *api.Part) { x.Tx.Boot = 0 }},
		{api.ErrArg, func(x *api.Part) { x.Tx.Boot = life + 1 }},
		{api.ErrArg, func(x *api.Part) { x.Tx.N = 0 }},
		{api.ErrArg, func(x *api.Part) { x.Tx.N = life + 1 }},
		{api.ErrArg, func(x *api.Part) { x.Tx.N = math.MinInt }},
		{api.OK, func(x *api.Part) { x.Peers = []int{1} }},
		{api.OK, func(x *api.Part) { x.Peers = []int{0, 1, 2} }},
		{api.OK, func(x *api.Part) { x.Peers = []int{1, 2} }},
		{api.ErrArg, func(x *api.Part) { x.Peers = nil }},
		{api.ErrArg, func(x *api.Part) { x.Peers = []int{} }},
		{api.ErrArg, func(x *api.Part) { x.Peers = []int{0, 2} }},
		{api.ErrArg, func(x *api.Part) { x.Peers = []int{1, 0} }},
		{api.ErrArg, func(x *api.Part) { x.Peers = []int{1, 1} }},
		{api.ErrArg, func(x *api.Part) { x.Peers = []int{1, 3} }},
		{api.ErrArg, func(x *api.Part) { x.Peers = []int{-1, 1} }},
		{api.ErrArg, func(x *api.Part) { x.Peers = []int{0, 1, 2, 3} }},
		{api.ErrArg, func(x *api.Part) { x.Peers = []int{1, math.MaxInt} }},
		{api.ErrArg, func(x *api.Part) { x.Peers = []int{math.MinInt, 1} }},
		{api.ErrArg, func(x *api.Part) { x.Peers = append(make([]int, 300), 1) }},
		{api.ErrArg, func(x *api.Part) { x.Epochs = nil }},
		{api.ErrArg, func(x *api.Part) { x.Epochs = []int{1, 1} }},
		{api.ErrArg, func(x *api.Part) { x.Epochs[0] = -1 }},
		{api.ErrArg, func(x *api.Part) { x.Epochs[0] = top + 1 }},
		{api.ErrArg, func(x *api.Part) { x.Epochs[0] = math.MinInt }},
		{api.ErrStale, func(x *api.Part) { x.Epochs[0] = top }},
		{api.ErrStale, func(x *api.Part) { x.Epochs[0] = 0 }},
		{api.ErrArg, func(x *api.Part) { x.Deeds, x.Epochs = nil, nil }},
		{api.ErrArg, func(x *api.Part) { x.Deeds = nil }},
		{api.ErrArg, func(x *api.Part) { x.Deeds, x.Epochs = make([]api.Deed, 13), make([]int, 12) }},
		{api.ErrLimit, func(x *api.Part) { x.Deeds, x.Epochs = make([]api.Deed, 13), make([]int, 13) }},
		{api.ErrType, func(x *api.Part) { x.Deeds[0].Do = api.NoDo }},
		{api.ErrForm, func(x *api.Part) { x.Deeds[0].User = "A" }},
		{api.ErrArg, func(x *api.Part) { x.Deeds[0].Epoch = 1 }},
		{api.ErrLimit, func(x *api.Part) { x.Deeds[0].Bytes = make([]byte, 601) }},
		{api.ErrLimit, func(x *api.Part) {
			d := put(ann, strings.Repeat("x", 600))
			x.Deeds, x.Epochs = []api.Deed{d, d, d}, []int{1, 1, 1}
		}},
		// Of several the first one.
		{api.ErrArg, func(x *api.Part) { x.Tx.N, x.Deeds[0].Do = 0, api.NoDo }},
		{api.ErrArg, func(x *api.Part) { x.Peers, x.Deeds[0].Do = nil, api.NoDo }},
		{api.ErrArg, func(x *api.Part) { x.Epochs[0], x.Deeds[0].Do = -1, api.NoDo }},
		{api.ErrType, func(x *api.Part) { x.Tx, x.Deeds[0].Do = tx(1), api.NoDo }},
		{api.ErrState, func(x *api.Part) { x.Tx = tx(1) }},
		{api.ErrState, func(x *api.Part) { x.Tx, x.Epochs[0] = tx(1), 7 }},
	} {
		x := job(9, 1, put(ann, "x"))
		c.change(&x)
		was := all(t, p)
		v, rec := p.Prepare(x)
		if v.Errno != c.want || (len(rec) > 0) != (c.want == api.OK) {
			t.Errorf("%d: Prepare = %v, %q, want %d", i, v, rec, c.want)
		}
		if c.want != api.OK && c.want != api.ErrStale && !sameVote(v, no(c.want)) {
			t.Errorf("%d: beside the error stands %v", i, v)
		}
		stays(t, p, was)
	}
}

// P11.2: what is held already has the vote that it had, whatever is asked now.
func TestPrepareAgain(t *testing.T) {
	p := folk(t)
	do(t, p, job(3, 1, put(ann, "one")))
	x := job(4, 1, put(ann, "two"), put(ann, "three"), add(bob, "work"))
	v := hold(t, p, x)
	if !sameVote(v, api.Vote{Numbers: []int{2, 3, 2}}) {
		t.Errorf("the vote is %v", v)
	}
	do(t, p, job(5, 0, open(cat)))
	other := job(4, 7, cut(cat, 99))
	for _, y := range []api.Part{x, other} {
		was := all(t, p)
		if again, rec := p.Prepare(y); !sameVote(again, v) || len(rec) != 0 {
			t.Errorf("Prepare of what is held = %v, %q", again, rec)
		}
		stays(t, p, was)
	}
	// What is wrong with it comes ahead.
	other.Peers = nil
	refused(t, p, other, no(api.ErrArg))
	other = job(4, 1, api.Deed{})
	refused(t, p, other, no(api.ErrType))
	// A Leave's vote has the bytes then, too.
	decide(t, p, 4, true)
	away := job(6, 1, put(bob, "x"), leave(ann, 2, 2))
	w := hold(t, p, away)
	bytesOf, _ := deed.PutUser(fresh(ann, "one", "two", "three"))
	if !sameVote(w, api.Vote{Numbers: []int{1, 0}, Bytes: bytesOf}) {
		t.Errorf("the vote is %v", w)
	}
	if again, rec := p.Prepare(away); !sameVote(again, w) || len(rec) != 0 {
		t.Errorf("Prepare of what is held = %v, %q", again, rec)
	}
	// Once it is decided, it is not held any more.
	decide(t, p, 6, false)
	refused(t, p, away, no(api.ErrState))
}

// P11.2: deed by deed.
func TestPrepareDeeds(t *testing.T) {
	p := folk(t)
	do(t, p, job(3, 1, put(ann, "one")))
	do(t, p, job(4, 0, enter(fresh(dan, "x"), 5)))
	do(t, p, job(5, 5, leave(dan, 2, 6)))
	do(t, p, job(6, 0, open(cat)))
	hold(t, p, job(7, 1, put(cat, "one")))
	was := func(user string, shard, epoch int) api.Vote {
		return api.Vote{Errno: api.ErrStale, Seat: api.Seat{User: user, Shard: shard, Epoch: epoch}}
	}
	yes := func(numbers ...int) api.Vote { return api.Vote{Numbers: numbers} }
	left := yes(0)
	left.Bytes, _ = deed.PutUser(fresh(ann, "one"))
	more := at(1, 3)
	for i, c := range []struct {
		want api.Vote
		x    api.Part
	}{
		{yes(1), job(9, 0, open(more))},
		{yes(1), job(9, 99, open(more))},
		{was(ann, 1, 1), job(9, 1, open(ann))},
		{was(eve, 2, 1), job(9, 0, open(eve))},
		{was(dan, 2, 6), job(9, 0, open(dan))},
		{was(cat, 1, 1), job(9, 0, open(cat))}, // locked, too
		{yes(0), job(9, 0, enter(fresh(more), 2))},
		{yes(0), job(9, 0, enter(fresh(eve), 2))},
		{yes(0), job(9, 0, enter(fresh(eve), top))},
		{was(eve, 2, 1), job(9, 0, enter(fresh(eve), 1))},
		{was(more, 1, 1), job(9, 0, enter(fresh(more), 1))},
		{was(ann, 1, 1), job(9, 1, enter(fresh(ann), 9))},
		{was(dan, 2, 6), job(9, 0, enter(fresh(dan), 6))},
		{was(dan, 2, 6), job(9, 0, enter(fresh(dan), 5))},
		{yes(0), job(9, 0, enter(fresh(dan), 7))},
		{yes(2), job(9, 1, put(ann, "x"))},
		{was(ann, 1, 1), job(9, 2, put(ann, "x"))},
		{was(ann, 1, 1), job(9, 0, put(ann, "x"))},
		{was(eve, 2, 1), job(9, 1, put(eve, "x"))},
		{was(more, 1, 1), job(9, 1, put(more, "x"))},
		{was(dan, 2, 6), job(9, 6, put(dan, "x"))},
		{was(cat, 1, 1), job(9, 2, put(cat, "x"))},
		{no(api.ErrBusy), job(9, 1, put(cat, "x"))},
		{no(api.ErrBusy), job(9, 1, put(ann, "x"), put(cat, "x"))},
		{was(dan, 2, 6), job(9, 1, put(dan, "x"), put(cat, "x"))},
		{no(api.ErrBusy), job(9, 1, put(cat, "x"), put(dan, "x"))},
		{left, job(9, 1, leave(ann, 0, 2))},
		{left, job(9, 1, leave(ann, 2, 2))},
		{no(api.ErrArg), job(9, 1, leave(ann, 1, 2))},
		{no(api.ErrArg), job(9, 1, leave(ann, 3, 2))},
		{no(api.ErrArg), job(9, 1, leave(ann, 2, 1))},
		{no(api.ErrArg), job(9, 1, leave(ann, 2, 3))},
		{was(ann, 1, 1), job(9, 3, leave(ann, 2, 3))},
		{was(dan, 2, 6), job(9, 6, leave(dan, 0, 7))},
		{no(api.ErrArg), job(9, 1, leave(cat, 2, 3))}, // locked, too
		{no(api.ErrBusy), job(9, 1, leave(cat, 2, 2))},
		{no(api.ErrArg), job(9, 1, put(ann, "x"), leave(ann, 2, 2))},
		{no(api.ErrArg), job(9, 1, leave(ann, 2, 2), put(ann, "x"))},
		{no(api.ErrArg), job(9, 1, leave(ann, 2, 2), put(bob, "x"), leave(ann, 2, 2))},
		{no(api.ErrArg), job(9, 1, open(more), open(more))},
		{no(api.ErrArg), job(9, 1, open(more), enter(fresh(more), 2))},
		{no(api.ErrArg), job(9, 1, enter(fresh(more), 2), open(more))},
		{was(more, 1, 1), job(9, 1, open(more), put(more, "x"))},
		{yes(2, 2, 0), job(9, 1, put(ann, "x"), add(ann, "work"), cut(ann, 1))},
		{yes(2, 1, 3), job(9, 1, put(ann, "x"), put(bob, "x"), put(ann, "x"))},
		// Then the store's.
		{no(api.ErrGone), job(9, 1, cut(bob, 1))},
		{no(api.ErrGone), job(9, 1, put(ann, "x"), cut(bob, 1))},
		{no(api.ErrKnown), job(9, 1, add(bob, "work"), add(bob, "work"))},
		{was(eve, 2, 1), job(9, 1, cut(bob, 1), put(eve, "x"))},
		{no(api.ErrState), job(9, 1, api.Deed{Do: api.Drop, User: bob, Box: "INBOX"})},
	} {
		before := all(t, p)
		v, rec := p.Prepare(c.x)
		if !sameVote(v, c.want) || (len(rec) > 0) != (c.want.Errno == api.OK) {
			t.Errorf("%d: Prepare(%v) = %v, %q, want %v", i, c.x, v, rec, c.want)
		}
		stays(t, p, before)
	}
}

// P11.2: of more Leaves the bytes are the first one's user's.
func TestTwoLeave(t *testing.T) {
	p := folk(t)
	do(t, p, job(3, 1, put(bob, "one")))
	v := hold(t, p, job(4, 1, leave(bob, 2, 2), leave(ann, 0, 2)))
	want, _ := deed.PutUser(fresh(bob, "one"))
	if !sameVote(v, api.Vote{Numbers: []int{0, 0}, Bytes: want}) {
		t.Errorf("the vote is %v", v)
	}
	decide(t, p, 4, true)
	if l := p.Seats(); !reflect.DeepEqual(l, []api.Seat{{User: ann, Shard: 0, Epoch: 2}, {User: bob, Shard: 2, Epoch: 2}}) {
		t.Errorf("Seats = %v", l)
	}
}

// P11.2: MaxHeld are held, and no more.
func TestMaxHeld(t *testing.T) {
	p := folk(t)
	for i := range 8 {
		hold(t, p, job(10+i, 0, open(at(1, 5+i))))
	}
	refused(t, p, job(30, 1, put(ann, "x")), no(api.ErrFull))
	refused(t, p, job(30, 9, put(ann, "x")), no(api.ErrFull)) // ahead of the seat
	refused(t, p, job(1, 1, put(ann, "x")), no(api.ErrState))
	if v, rec := p.Prepare(job(12, 0, open(at(1, 7)))); !sameVote(v, api.Vote{Numbers: []int{1}}) || len(rec) != 0 {
		t.Errorf("Prepare of what is held = %v, %q", v, rec)
	}
	decide(t, p, 13, false)
	hold(t, p, job(30, 1, put(ann, "x")))
	refused(t, p, job(31, 1, put(bob, "x")), no(api.ErrFull))
}

// fates has the shard know n fates more, of another node.
func fates(t *testing.T, p *part.Part, from, n int) {
	t.Helper()
	for i := range n {
		redo(t, p, fateRec(5, api.Tx{Node: 9, Boot: 2, N: from + i}, 2))
	}
}

// P11.2, P11.3, P11.5: MaxFates are known, with those that are held.
func TestMaxFates(t *testing.T) {
	p := folk(t)
	hold(t, p, job(3, 1, put(ann, "x")))
	fates(t, p, 1, 196)
	hold(t, p, job(4, 1, put(bob, "x"))) // the last one: 198 are known, and two held
	x := job(5, 0, open(cat))
	refused(t, p, x, no(api.ErrFull))
	x.Deeds = []api.Deed{put(ann, "y")} // locked, and of another epoch
	refused(t, p, x, no(api.ErrFull))
	was := all(t, p)
	if rec, e := p.Decide(tx(5), false); e != api.ErrFull || len(rec) != 0 {
		t.Errorf("Decide = %q, %d", rec, e)
	}
	if rec, e := p.Decide(tx(5), true); e != api.ErrGone || len(rec) != 0 {
		t.Errorf("Decide = %q, %d", rec, e)
	}
	if f, rec := p.Ask(tx(5)); f != api.Unknown || len(rec) != 0 {
		t.Errorf("Ask = %d, %q", f, rec)
	}
	if f, rec := p.Ask(tx(1)); f != api.Done || len(rec) != 0 {
		t.Errorf("Ask = %d, %q", f, rec)
	}
	for _, kind := range []byte{2, 5} {
		if e := p.Redo(fateRec(kind, tx(5), 2)); e != api.ErrFull {
			t.Errorf("Redo of one more = %d", e)
		}
	}
	if e := p.Redo(fateRec(5, tx(5), 1)); e != api.ErrFull {
		t.Errorf("Redo of one more = %d", e)
	}
	if e := p.Redo(fateRec(2, tx(5), 1)); e != api.ErrState {
		t.Errorf("Redo of one more that is not held = %d", e)
	}
	if e := p.Redo(heldRec(job(5, 0, open(cat)))); e != api.ErrState {
		t.Errorf("Redo of one more that is held = %d", e)
	}
	stays(t, p, was)
	// What is held can be done, or dropped, all the same.
	decide(t, p, 3, true)
	refused(t, p, job(5, 0, open(cat)), no(api.ErrFull))
	decide(t, p, 4, false)
	refused(t, p, job(5, 0, open(cat)), no(api.ErrFull))
	if f, rec := p.Ask(tx(5)); f != api.Unknown || len(rec) != 0 {
		t.Errorf("Ask = %d, %q", f, rec)
	}
	if e := p.Redo(fateRec(5, tx(5), 1)); e != api.ErrFull {
		t.Errorf("Redo of one more = %d", e)
	}
	if n := len(p.Snapshot()); n != 202 {
		t.Errorf("there are %d records", n)
	}
}

// P11.2, P11.5: the last fate for which there is room.
func TestLastFate(t *testing.T) {
	for i, last := range []func(*part.Part) []byte{
		func(p *part.Part) []byte { _, rec := p.Ask(tx(5)); return rec },
		func(p *part.Part) []byte { rec, _ := p.Decide(tx(5), false); return rec },
		func(p *part.Part) []byte { return fateRec(5, tx(5), 1) },
	} {
		p := folk(t)
		fates(t, p, 1, 196)
		hold(t, p, job(3, 1, put(ann, "x")))
		redo(t, p, last(p))
		refused(t, p, job(6, 0, open(cat)), no(api.ErrFull))
		if p.Fate(tx(5)) == api.Unknown {
			t.Errorf("%d: its fate is not known", i)
		}
	}
}

// P11.2: MaxFolk are there, with those who are to come.
func TestMaxFolk(t *testing.T) {
	p := shard(t)
	for i := range 14 {
		do(t, p, job(1+i, 0, open(at(1, i))))
	}
	a, b, c := at(1, 20), at(1, 21), at(1, 22)
	refused(t, p, job(30, 0, open(a), open(b), open(c)), no(api.ErrFull))
	refused(t, p, job(30, 0, enter(fresh(a), 2), open(b), enter(fresh(c), 3)), no(api.ErrFull))
	hold(t, p, job(30, 0, open(a), enter(fresh(b), 2)))
	for _, d := range []api.Deed{open(c), enter(fresh(c), 2)} {
		refused(t, p, job(31, 0, d), no(api.ErrFull))
	}
	// Who is to leave is still there.
	x := job(31, 1, leave(ann, 0, 2), open(c))
	refused(t, p, x, no(api.ErrFull))
	x = job(31, 1, put(bob, "x"), cut(bob, 7), open(c)) // ahead of the store's error
	refused(t, p, x, no(api.ErrFull))
	was := all(t, p)
	if e := p.Redo(userRec(1, fresh(c))); e != api.ErrFull {
		t.Errorf("Redo of one more = %d", e)
	}
	if e := p.Redo(heldRec(job(31, 0, open(c)))); e != api.ErrState {
		t.Errorf("Redo of one more = %d", e)
	}
	stays(t, p, was)
	hold(t, p, job(31, 1, leave(ann, 0, 2)))
	refused(t, p, job(32, 0, open(c)), no(api.ErrFull))
	decide(t, p, 31, true)
	hold(t, p, job(32, 0, open(c)))
	refused(t, p, job(33, 0, open(at(1, 23))), no(api.ErrFull))
	decide(t, p, 30, true)
	decide(t, p, 32, false)
	redo(t, p, userRec(4, fresh(c)))
	if l := p.Seats(); len(l) != 17 {
		t.Errorf("there are %d seats", len(l))
	}
	refused(t, p, job(33, 0, open(at(1, 23))), no(api.ErrFull))
	refused(t, p, job(33, 0, enter(fresh(ann), 3)), no(api.ErrFull))
}

// gone has the shard know of n users who left it, from the n-th one on.
func gone(t *testing.T, p *part.Part, from, n int) {
	t.Helper()
	for i := range n {
		redo(t, p, leftRec(api.Seat{User: "left" + strconv.Itoa(from+i), Shard: 2, Epoch: 2}))
	}
}

// P11.2, P11.5: MaxGone left, with those who are to leave.
func TestMaxGone(t *testing.T) {
	p := folk(t)
	do(t, p, job(3, 0, open(cat)))
	gone(t, p, 0, 62)
	refused(t, p, job(4, 1, leave(ann, 0, 2), leave(bob, 0, 2), leave(cat, 0, 2)), no(api.ErrFull))
	hold(t, p, job(4, 1, leave(ann, 0, 2), leave(bob, 0, 2)))
	refused(t, p, job(5, 1, leave(cat, 0, 2)), no(api.ErrFull))
	was := all(t, p)
	if e := p.Redo(leftRec(api.Seat{User: "more", Shard: 2, Epoch: 2})); e != api.ErrFull {
		t.Errorf("Redo of one more = %d", e)
	}
	stays(t, p, was)
	decide(t, p, 4, true)
	refused(t, p, job(5, 1, leave(cat, 0, 2)), no(api.ErrFull))
	// Who is to enter left as long as that is not done.
	hold(t, p, job(6, 0, enter(fresh(ann), 3)))
	refused(t, p, job(5, 1, leave(cat, 0, 2)), no(api.ErrFull))
	decide(t, p, 6, true)
	hold(t, p, job(5, 1, leave(cat, 0, 2)))
	refused(t, p, job(7, 3, leave(ann, 0, 4)), no(api.ErrFull))
	decide(t, p, 5, true)
	// A user who is there again did not leave any more.
	redo(t, p, userRec(9, fresh("left7")))
	gone(t, p, 62, 1)
	if n := len(p.Seats()); n != 66 {
		t.Errorf("there are %d seats", n)
	}
}
