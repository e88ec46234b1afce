package part_test

import (
	"math"
	"math/rand"
	"reflect"
	"testing"

	"pigeonhole/api"
	"pigeonhole/deed"
	"pigeonhole/part"
)

// P11.3, Decide
func TestDecide(t *testing.T) {
	p := folk(t)
	hold(t, p, job(3, 1, put(ann, "x")))
	hold(t, p, job(4, 1, put(bob, "x")))
	decide(t, p, 4, false)
	for i, c := range []struct {
		tx   api.Tx
		done bool
		rec  string
		want api.Errno
	}{
		{api.Tx{}, true, "", api.ErrArg},
		{api.Tx{Node: -1, Boot: 1, N: 1}, false, "", api.ErrArg},
		{api.Tx{Node: 256, Boot: 1, N: 1}, true, "", api.ErrArg},
		{api.Tx{Node: 3, Boot: 0, N: 1}, true, "", api.ErrArg},
		{api.Tx{Node: 3, Boot: 1, N: 0}, false, "", api.ErrArg},
		{api.Tx{Node: 3, Boot: life + 1, N: 1}, false, "", api.ErrArg},
		{api.Tx{Node: 3, Boot: 1, N: math.MaxInt}, false, "", api.ErrArg},
		{tx(1), true, "", api.OK},
		{tx(1), false, "", api.ErrState},
		{tx(4), false, "", api.OK},
		{tx(4), true, "", api.ErrState},
		{tx(3), true, "\x02\x03\x00\x00\x00\x01\x00\x00\x00\x03\x01", api.OK},
		{tx(3), false, "\x02\x03\x00\x00\x00\x01\x00\x00\x00\x03\x02", api.OK},
		{tx(5), true, "", api.ErrGone},
		{tx(5), false, "\x02\x03\x00\x00\x00\x01\x00\x00\x00\x05\x02", api.OK},
		{api.Tx{Node: 0, Boot: 1, N: 1}, false, "\x02\x00\x00\x00\x00\x01\x00\x00\x00\x01\x02", api.OK},
		{api.Tx{Node: 255, Boot: life, N: life - 1}, false, "\x02\xff\x7f\xff\xff\xff\x7f\xff\xff\xfe\x02", api.OK},
		{api.Tx{Node: 3, Boot: 2, N: 1}, true, "", api.ErrGone},
		{api.Tx{Node: 2, Boot: 1, N: 1}, true, "", api.ErrGone},
	} {
		was := all(t, p)
		rec, e := p.Decide(c.tx, c.done)
		if string(rec) != c.rec || e != c.want {
			t.Errorf("%d: Decide(%v, %v) = %q, %d, want %q, %d", i, c.tx, c.done, rec, e, c.rec, c.want)
		}
		stays(t, p, was)
	}
}

// P11.3, Ask
func TestAsk(t *testing.T) {
	p := folk(t)
	hold(t, p, job(3, 1, put(ann, "x")))
	hold(t, p, job(4, 1, put(bob, "x")))
	decide(t, p, 4, false)
	for i, c := range []struct {
		tx   api.Tx
		want api.Fate
		rec  string
	}{
		{api.Tx{}, api.Unknown, ""},
		{api.Tx{Node: 256, Boot: 1, N: 1}, api.Unknown, ""},
		{api.Tx{Node: -1, Boot: 1, N: 1}, api.Unknown, ""},
		{api.Tx{Node: 3, Boot: life + 1, N: 1}, api.Unknown, ""},
		{api.Tx{Node: 3, Boot: 1, N: life + 1}, api.Unknown, ""},
		{tx(0), api.Unknown, ""},
		{tx(1), api.Done, ""},
		{tx(3), api.Unknown, ""},
		{tx(4), api.Dropped, ""},
		{tx(5), api.Dropped, "\x02\x03\x00\x00\x00\x01\x00\x00\x00\x05\x02"},
		{api.Tx{Node: 0, Boot: 258, N: 1}, api.Dropped, "\x02\x00\x00\x00\x01\x02\x00\x00\x00\x01\x02"},
	} {
		was := all(t, p)
		f, rec := p.Ask(c.tx)
		if f != c.want || string(rec) != c.rec {
			t.Errorf("%d: Ask(%v) = %d, %q, want %d, %q", i, c.tx, f, rec, c.want, c.rec)
		}
		stays(t, p, was)
	}
	_, rec := p.Ask(tx(5))
	redo(t, p, rec)
	if f, rec := p.Ask(tx(5)); f != api.Dropped || len(rec) != 0 || p.Fate(tx(5)) != api.Dropped {
		t.Errorf("Ask = %d, %q", f, rec)
	}
	// What was told to be dropped is never held.
	refused(t, p, job(5, 0, open(cat)), no(api.ErrState))
}

// P11.4, Read and Look
func TestRead(t *testing.T) {
	p := folk(t)
	do(t, p, job(3, 1, put(ann, "one")))
	do(t, p, job(4, 0, enter(fresh(dan, "x"), 5)))
	do(t, p, job(5, 1, leave(bob, 2, 2)))
	do(t, p, job(6, 0, open(cat)))
	hold(t, p, job(7, 1, put(cat, "one")))
	more := at(1, 3)
	hold(t, p, job(8, 0, open(more)))
	seat := func(user string, shard, epoch int) api.Seat {
		return api.Seat{User: user, Shard: shard, Epoch: epoch}
	}
	none := api.Seat{}
	for i, c := range []struct {
		user  string
		epoch int
		want  api.User
		seat  api.Seat
		e     api.Errno
	}{
		{ann, 1, fresh(ann, "one"), none, api.OK},
		{ann, 0, api.User{}, seat(ann, 1, 1), api.ErrStale},
		{ann, 2, api.User{}, seat(ann, 1, 1), api.ErrStale},
		{ann, math.MinInt, api.User{}, seat(ann, 1, 1), api.ErrStale},
		{dan, 5, fresh(dan, "x"), none, api.OK},
		{dan, 1, api.User{}, seat(dan, 1, 5), api.ErrStale},
		{bob, 2, api.User{}, seat(bob, 2, 2), api.ErrStale},
		{bob, 1, api.User{}, seat(bob, 2, 2), api.ErrStale},
		{eve, 1, api.User{}, seat(eve, 2, 1), api.ErrStale},
		{more, 1, api.User{}, seat(more, 1, 1), api.ErrStale},
		{cat, 1, api.User{}, none, api.ErrBusy},
		{cat, 2, api.User{}, seat(cat, 1, 1), api.ErrStale},
		{"", 1, api.User{}, seat("", 1, 1), api.ErrStale},   // 811c9dc5, by 3: 1
		{"a", 1, api.User{}, seat("a", 1, 1), api.ErrStale}, // e40c292c, by 3: 1
	} {
		u, s, e := p.Read(c.user, c.epoch)
		if !sameUser(u, c.want) || s != c.seat || e != c.e {
			t.Errorf("%d: Read(%q, %d) = %v, %v, %d", i, c.user, c.epoch, u, s, e)
		}
	}
	for user, want := range map[string]api.User{ann: fresh(ann, "one"), dan: fresh(dan, "x"), cat: fresh(cat), bob: {}, eve: {}, more: {}, "": {}, "A": {}} {
		e := api.OK
		if want.Name == "" {
			e = api.ErrGone
		}
		if u, f := p.Look(user); !sameUser(u, want) || f != e {
			t.Errorf("Look(%q) = %v, %d", user, u, f)
		}
	}
}

// P11.4, Held: in the order in which they were held.
func TestHeld(t *testing.T) {
	p := folk(t)
	if l := p.Held(); len(l) != 0 {
		t.Errorf("Held = %v", l)
	}
	x := job(9, 1, put(ann, "x"), put(ann, "y"))
	x.Epochs = []int{1, 1}
	y := job(3, 0, open(cat), put(bob, "x"))
	y.Peers, y.Epochs = []int{1, 2}, []int{top, 1}
	z := job(7, 77, enter(fresh(eve, "z"), 2))
	for _, x := range []api.Part{x, y, z} {
		hold(t, p, x)
	}
	if l := p.Held(); !sameParts(l, []api.Part{x, y, z}) {
		t.Errorf("Held = %v", l)
	}
	decide(t, p, 3, true)
	if l := p.Held(); !sameParts(l, []api.Part{x, z}) {
		t.Errorf("Held = %v", l)
	}
	hold(t, p, job(4, 1, put(cat, "x")))
	decide(t, p, 9, false)
	if l := p.Held(); !sameParts(l, []api.Part{z, job(4, 1, put(cat, "x"))}) {
		t.Errorf("Held = %v", l)
	}
}

// P11.4, Fate and Seats
func TestFateAndSeats(t *testing.T) {
	p := folk(t)
	hold(t, p, job(3, 1, put(ann, "x")))
	hold(t, p, job(4, 1, put(bob, "x")))
	decide(t, p, 4, false)
	for tx, want := range map[api.Tx]api.Fate{
		tx(1): api.Done, tx(2): api.Done, tx(3): api.Unknown, tx(4): api.Dropped, tx(5): api.Unknown, {}: api.Unknown,
		{Node: 4, Boot: 1, N: 1}: api.Unknown, {Node: 3, Boot: 2, N: 1}: api.Unknown, {Node: -1, Boot: math.MinInt, N: math.MaxInt}: api.Unknown,
	} {
		if f := p.Fate(tx); f != want {
			t.Errorf("Fate(%v) = %d, want %d", tx, f, want)
		}
	}
	decide(t, p, 3, true)
	do(t, p, job(6, 0, enter(fresh("zoe"), 7)))
	do(t, p, job(7, 0, enter(fresh("ada"), 3)))
	do(t, p, job(8, 3, leave("ada", 0, 4)))
	redo(t, p, leftRec(api.Seat{User: "a-b", Shard: 2, Epoch: 9}))
	want := []api.Seat{{User: "a-b", Shard: 2, Epoch: 9}, {User: "ada", Shard: 0, Epoch: 4}, {User: ann, Shard: 1, Epoch: 1}, {User: bob, Shard: 1, Epoch: 1}, {User: "zoe", Shard: 1, Epoch: 7}}
	if l := p.Seats(); !reflect.DeepEqual(l, want) {
		t.Errorf("Seats = %v", l)
	}
}

// P1: of a part that is nil, and of one that no call made, no call panics.
func TestNil(t *testing.T) {
	var none *part.Part
	if v, rec := none.Prepare(job(1, 0, open(ann))); !sameVote(v, no(api.ErrNil)) || rec != nil {
		t.Errorf("Prepare of nil = %v, %q", v, rec)
	}
	if rec, e := none.Decide(tx(1), false); rec != nil || e != api.ErrNil {
		t.Errorf("Decide of nil = %q, %d", rec, e)
	}
	if f, rec := none.Ask(tx(1)); f != api.Unknown || rec != nil {
		t.Errorf("Ask of nil = %d, %q", f, rec)
	}
	if u, s, e := none.Read(ann, 1); !reflect.DeepEqual(u, api.User{}) || s != (api.Seat{}) || e != api.ErrNil {
		t.Errorf("Read of nil = %v, %v, %d", u, s, e)
	}
	if u, e := none.Look(ann); !reflect.DeepEqual(u, api.User{}) || e != api.ErrNil {
		t.Errorf("Look of nil = %v, %d", u, e)
	}
	if e := none.Redo(nil); e != api.ErrNil {
		t.Errorf("Redo of nil = %d", e)
	}
	if none.Held() != nil || none.Seats() != nil || none.Snapshot() != nil || none.Fork() != nil || none.Fate(tx(1)) != api.Unknown {
		t.Error("nil tells of itself")
	}
	zero := new(part.Part)
	for _, rec := range [][]byte{nil, fateRec(2, tx(1), 2), userRec(1, fresh(ann)), leftRec(api.Seat{User: ann, Shard: 2, Epoch: 2}), fateRec(5, tx(1), 1), heldRec(job(1, 0, open(ann)))} {
		zero.Redo(rec)
	}
	zero.Prepare(job(1, 0, open(ann)))
	zero.Decide(tx(1), false)
	zero.Ask(tx(1))
	zero.Read(ann, 1)
	zero.Look(ann)
	zero.Fate(tx(1))
	zero.Held()
	zero.Seats()
	zero.Snapshot()
	zero.Fork()
}

// P1: no call panics, whatever it is given, and what Prepare refuses changes nothing.
func TestWild(t *testing.T) {
	r := rand.New(rand.NewSource(1))
	p := folk(t)
	hold(t, p, job(3, 1, put(ann, "x")))
	was := all(t, p)
	number := func() int {
		l := []int{0, 0, 1, 1, 1, 2, 3, -1, 255, 256, top, life, math.MaxInt, math.MinInt}
		return l[r.Intn(len(l))]
	}
	for range 5000 {
		x := api.Part{Tx: api.Tx{Node: number(), Boot: number(), N: number()}, Peers: []int{1}}
		if r.Intn(3) > 0 {
			x.Tx = tx(9)
		}
		for range r.Intn(4) {
			users := []string{ann, bob, eve, "", "A", "\xff"}
			x.Deeds = append(x.Deeds, api.Deed{Do: api.Do(r.Intn(12) - 1), User: users[r.Intn(6)], Box: []string{"", "INBOX"}[r.Intn(2)], UID: number() * r.Intn(2), Shard: number() * r.Intn(2), Epoch: number() * r.Intn(2)})
			x.Epochs = append(x.Epochs, number())
		}
		for range r.Intn(2) {
			x.Peers = append(x.Peers, number())
		}
		if v, rec := p.Prepare(x); v.Errno != api.OK && (len(rec)+len(v.Numbers)+len(v.Bytes) > 0 || v.Errno != api.ErrStale && v.Seat != api.Seat{}) {
			t.Fatalf("Prepare(%v) = %v, %q", x, v, rec)
		}
		p.Decide(x.Tx, r.Intn(2) == 0)
		p.Ask(x.Tx)
		p.Fate(x.Tx)
		p.Read("\xff", number())
	}
	stays(t, p, was)
}

// spoil overwrites all that lies in a list, and in the room behind its end.
func spoil[T any](l []T, by T) {
	l = l[:cap(l)]
	for i := range l {
		l[i] = by
	}
}

// spoilPart overwrites a part.
func spoilPart(x api.Part) {
	for _, d := range x.Deeds {
		spoil(d.Bytes, 'z')
	}
	spoil(x.Deeds, api.Deed{Do: 99, User: "zz"})
	spoil(x.Peers, 77)
	spoil(x.Epochs, 777)
}

// spoilUser overwrites a user.
func spoilUser(u api.User) {
	for _, b := range u.Boxes {
		for _, l := range b.Letters {
			spoil(l.Bytes, 'z')
		}
		spoil(b.Letters, api.Letter{UID: 99})
	}
	spoil(u.Boxes, api.Box{Name: "zz"})
}

// P3: what is handed in stays, and is not kept; what is answered is new.
func TestMemory(t *testing.T) {
	p := folk(t)
	do(t, p, job(3, 1, put(ann, "one")))
	x := job(4, 1, put(ann, "two"), leave(bob, 2, 2))
	x.Peers = append(make([]int, 0, 9), x.Peers...)
	x.Deeds = append(make([]api.Deed, 0, 9), x.Deeds...)
	x.Epochs = append(make([]int, 0, 9), x.Epochs...)
	spare := [][]int{x.Peers[2:9], x.Epochs[2:9]}
	_, rec := p.Prepare(x)
	if !sameParts([]api.Part{x}, []api.Part{job(4, 1, put(ann, "two"), leave(bob, 2, 2))}) || !reflect.DeepEqual(x.Deeds[2:9], make([]api.Deed, 7)) || !reflect.DeepEqual(spare, [][]int{make([]int, 7), make([]int, 7)}) {
		t.Error("Prepare changed what it was handed")
	}
	was := string(rec)
	redo(t, p, rec)
	if string(rec) != was {
		t.Error("Redo changed what it was handed")
	}
	state := all(t, p)
	spoil(rec, 'z')
	v, _ := p.Prepare(x)
	spoilPart(x)
	stays(t, p, state)
	spoil(v.Numbers, 99)
	spoil(v.Bytes, 'z')
	for _, x := range p.Held() {
		spoilPart(x)
	}
	spoil(p.Held(), api.Part{})
	spoil(p.Seats(), api.Seat{User: "zz"})
	for _, rec := range p.Snapshot() {
		spoil(rec, 'z')
	}
	spoil(p.Snapshot(), nil)
	u, _ := p.Look(ann)
	spoilUser(u)
	rec, _ = p.Decide(tx(4), true)
	spoil(rec, 'z')
	_, rec = p.Ask(tx(9))
	spoil(rec, 'z')
	stays(t, p, state)
	decide(t, p, 4, true)
	if u, _, e := p.Read(ann, 1); !sameUser(u, fresh(ann, "one", "two")) || e != api.OK {
		t.Errorf("Read = %v, %d", u, e)
	}
	u, _, _ = p.Read(ann, 1)
	spoilUser(u)
	if u, _, e := p.Read(ann, 1); !sameUser(u, fresh(ann, "one", "two")) || e != api.OK {
		t.Errorf("Read = %v, %d", u, e)
	}
}

// P4: of a part and its Fork, what becomes of the one changes nothing of the other one.
func TestFork(t *testing.T) {
	p := folk(t)
	hold(t, p, job(3, 1, put(ann, "one")))
	hold(t, p, job(4, 1, leave(bob, 2, 2)))
	q := p.Fork()
	was := all(t, p)
	stays(t, q, was)
	change := func(p *part.Part) {
		t.Helper()
		hold(t, p, job(5, 0, open(cat)))
		decide(t, p, 3, true)
		decide(t, p, 4, true)
		decide(t, p, 5, true)
		redo(t, p, userRec(3, fresh("zoe")))
		redo(t, p, leftRec(api.Seat{User: "ada", Shard: 0, Epoch: 2}))
		redo(t, p, fateRec(5, tx(9), 2))
	}
	change(q)
	stays(t, p, was)
	// Each list that grew in both has room of its own.
	r := p.Fork()
	hold(t, p, job(7, 0, open(cat)))
	hold(t, r, job(8, 0, open(at(1, 4))))
	if l, m := p.Held(), r.Held(); l[2].Tx != tx(7) || m[2].Tx != tx(8) {
		t.Errorf("Held = %v, and %v", l, m)
	}
	decide(t, p, 7, false)
	changed := all(t, q)
	change(p)
	stays(t, q, changed)
	if all(t, p).snapshot == changed.snapshot {
		t.Error("they had another fate each")
	}
	if u, e := r.Look(ann); !sameUser(u, fresh(ann)) || e != api.OK || len(r.Held()) != 3 {
		t.Errorf("the third one has %v, %d", u, e)
	}
}

// P11.7: of a part all is done, or nothing, and what is held is seen by nobody.
func TestAllOrNothing(t *testing.T) {
	for _, done := range []bool{false, true} {
		p := folk(t)
		do(t, p, job(3, 1, put(ann, "one")))
		x := job(4, 1, cut(ann, 1), put(bob, "two"), open(cat), enter(fresh(eve, "e"), 3))
		hold(t, p, x)
		want := map[string]api.User{ann: fresh(ann, "one"), bob: fresh(bob)}
		for user, u := range want {
			if got, _, e := p.Read(user, 1); e != api.ErrBusy || !sameUser(got, api.User{}) {
				t.Errorf("Read = %v, %d", got, e)
			}
			if got, e := p.Look(user); e != api.OK || !sameUser(got, u) {
				t.Errorf("Look = %v, %d", got, e)
			}
		}
		if n := len(p.Seats()); n != 2 {
			t.Errorf("there are %d seats", n)
		}
		decide(t, p, 4, done)
		if done {
			empty := fresh(ann, "one")
			empty.Boxes[0].Letters = nil
			want = map[string]api.User{ann: empty, bob: fresh(bob, "two"), cat: fresh(cat)}
			if got, _, e := p.Read(eve, 3); e != api.OK || !sameUser(got, fresh(eve, "e")) {
				t.Errorf("Read = %v, %d", got, e)
			}
		}
		for user, u := range want {
			if got, _, e := p.Read(user, 1); e != api.OK || !sameUser(got, u) {
				t.Errorf("Read = %v, %d", got, e)
			}
		}
	}
}

// A user is shifted from one shard to another one, and back: its bytes are those of the vote.
func TestShift(t *testing.T) {
	p := folk(t)
	q, e := part.New(2, 3)
	if e != api.OK {
		t.Fatal(e)
	}
	do(t, p, job(3, 1, put(ann, "one")))
	v := hold(t, p, job(4, 1, leave(ann, 2, 2)))
	x := api.Part{Tx: tx(4), Peers: []int{1, 2}, Deeds: []api.Deed{{Do: api.Enter, User: ann, Epoch: 2, Bytes: v.Bytes}}, Epochs: []int{0}}
	if w := hold(t, q, x); !sameVote(w, api.Vote{Numbers: []int{0}}) {
		t.Errorf("the vote is %v", w)
	}
	decide(t, p, 4, true)
	decide(t, q, 4, true)
	if _, s, e := p.Read(ann, 1); e != api.ErrStale || s != (api.Seat{User: ann, Shard: 2, Epoch: 2}) {
		t.Errorf("Read = %v, %d", s, e)
	}
	if u, _, e := q.Read(ann, 2); e != api.OK || !sameUser(u, fresh(ann, "one")) {
		t.Errorf("Read = %v, %d", u, e)
	}
	x = api.Part{Tx: tx(5), Peers: []int{1, 2}, Deeds: []api.Deed{leave(ann, 1, 3)}, Epochs: []int{2}}
	v = hold(t, q, x)
	back := job(5, 0, api.Deed{Do: api.Enter, User: ann, Epoch: 3, Bytes: v.Bytes})
	hold(t, p, back)
	decide(t, p, 5, true)
	decide(t, q, 5, true)
	if l := p.Seats(); !reflect.DeepEqual(l, []api.Seat{{User: ann, Shard: 1, Epoch: 3}, {User: bob, Shard: 1, Epoch: 1}}) {
		t.Errorf("Seats = %v", l)
	}
	if u, _, e := p.Read(ann, 3); e != api.OK || !sameUser(u, fresh(ann, "one")) {
		t.Errorf("Read = %v, %d", u, e)
	}
	if b, _ := deed.PutUser(fresh(ann, "one")); string(b) != string(v.Bytes) {
		t.Errorf("the bytes are %q", v.Bytes)
	}
}
