package part_test

import (
	"encoding/binary"
	"math/rand"
	"reflect"
	"strings"
	"testing"

	"pigeonhole/api"
	"pigeonhole/deed"
	"pigeonhole/part"
)

// number4 is a number's four bytes.
func number4(b []byte, n int) []byte { return binary.BigEndian.AppendUint32(b, uint32(n)) }

// begin is a record's kind, and its transaction.
func begin(kind byte, tx api.Tx) []byte {
	return number4(number4([]byte{kind, byte(tx.Node)}, tx.Boot), tx.N)
}

// heldRec is the record of a part that is held.
func heldRec(x api.Part) []byte {
	b := append(begin(1, x.Tx), byte(len(x.Peers)))
	for _, n := range x.Peers {
		b = append(b, byte(n))
	}
	b = append(b, byte(len(x.Epochs)))
	for _, n := range x.Epochs {
		b = number4(b, n)
	}
	l, _ := deed.PutAll(x.Deeds)
	return append(b, l...)
}

// fateRec is the record of a decision, or of a fate.
func fateRec(kind byte, tx api.Tx, fate byte) []byte { return append(begin(kind, tx), fate) }

// userRec is the record of a user.
func userRec(epoch int, u api.User) []byte {
	b, _ := deed.PutUser(u)
	return append(number4([]byte{3}, epoch), b...)
}

// leftRec is the record of one who left.
func leftRec(s api.Seat) []byte {
	return append(number4([]byte{4, byte(s.Shard)}, s.Epoch), s.User...)
}

// wrong has a record be refused.
func wrong(t *testing.T, p *part.Part, rec []byte, want api.Errno) {
	t.Helper()
	was := all(t, p)
	if e := p.Redo(rec); e != want {
		t.Errorf("Redo(%q) = %d, want %d", rec, e, want)
	}
	stays(t, p, was)
}

// P11.2: a record's bytes.
func TestHeldBytes(t *testing.T) {
	p := folk(t)
	x := job(0x01020304, 1, put(ann, "Hi"), api.Deed{Do: api.Make, User: bob, Box: "b"})
	x.Tx.Node, x.Tx.Boot = 255, 0x7fffffff
	_, rec := p.Prepare(x)
	want := "\x01\xff\x7f\xff\xff\xff\x01\x02\x03\x04" + "\x02\x00\x01" + "\x02\x00\x00\x00\x01\x00\x00\x00\x01" +
		"\x02" + "\x04" + string(rune(len(ann))) + ann + "\x05INBOX\x00" + "\x00\x00\x00\x00" + "\x00\x01\x00" + "\x00\x00\x00\x00" + "\x00\x02Hi" +
		"\x02" + string(rune(len(bob))) + bob + "\x01b\x00" + "\x00\x00\x00\x00" + "\x00\x00\x00" + "\x00\x00\x00\x00" + "\x00\x00"
	if string(rec) != want {
		t.Errorf("the record is\n%q, want\n%q", rec, want)
	}
	redo(t, p, rec)
	y := job(7, 0, enter(fresh(eve), top), open(cat))
	y.Peers, y.Epochs = []int{0, 1, 2}, []int{top, 0x01020304}
	if _, rec := p.Prepare(y); string(rec) != string(heldRec(y)) || !strings.HasPrefix(string(rec), "\x01\x03\x00\x00\x00\x01\x00\x00\x00\x07\x03\x00\x01\x02\x02\xff\xff\xff\xff\x01\x02\x03\x04\x02\x08") {
		t.Errorf("the record is %q", rec)
	}
}

// P11.5: what is no record, of each kind.
func TestRedoForm(t *testing.T) {
	p := folk(t)
	hold(t, p, job(3, 1, put(ann, "x")))
	held := string(heldRec(job(9, 1, put(bob, "x"))))
	user := string(userRec(1, fresh(cat)))
	for _, rec := range []string{
		"", "\x00", "\x06", "\xff", "\x00" + held[1:], "\x06" + held[1:],
		"\x02" + held[1:], "\x03" + held[1:], "\x04" + held[1:], "\x05" + held[1:],
		// 1
		held + "\x00",
		held[:1] + "\x03\x00\x00\x00\x00\x00\x00\x00\x09" + held[10:],
		held[:1] + "\x03\x80\x00\x00\x00\x00\x00\x00\x09" + held[10:],
		held[:1] + "\x03\x00\x00\x00\x01\x00\x00\x00\x00" + held[10:],
		held[:1] + "\x03\x00\x00\x00\x01\xff\xff\xff\xff" + held[10:],
		held[:10] + "\x00" + held[13:],
		held[:10] + "\x01\x00" + held[13:],
		held[:10] + "\x02\x01\x00" + held[13:],
		held[:10] + "\x02\x01\x01" + held[13:],
		held[:10] + "\x02\x01\x03" + held[13:],
		held[:10] + "\x04\x00\x01\x02\x03" + held[13:],
		held[:10] + "\xff" + held[11:],
		held[:13] + "\x00" + held[18:],
		held[:13] + "\x02\x00\x00\x00\x01\x00\x00\x00\x01" + held[18:],
		held[:13] + "\xff" + held[14:],
		held[:18] + "\x00",
		held[:18] + "\x00" + held[19:],
		held[:18] + "\x0d" + held[19:],
		held[:19] + "\x00" + held[20:],
		held[:19] + "\x0a" + held[20:],
		// 2 and 5
		"\x02\x03\x00\x00\x00\x01\x00\x00\x00\x03\x00",
		"\x02\x03\x00\x00\x00\x01\x00\x00\x00\x03\x03",
		"\x02\x03\x00\x00\x00\x01\x00\x00\x00\x03\x01\x01",
		"\x02\x03\x00\x00\x00\x00\x00\x00\x00\x03\x01",
		"\x02\x03\x00\x00\x00\x01\x00\x00\x00\x00\x01",
		"\x02\x03\x80\x00\x00\x00\x00\x00\x00\x03\x02",
		"\x05\x03\x00\x00\x00\x01\x00\x00\x00\x09\x00",
		"\x05\x03\x00\x00\x00\x01\x00\x00\x00\x09\x03",
		"\x05\x03\x00\x00\x00\x01\x00\x00\x00\x09\x02\x00",
		"\x05\x03\x00\x00\x00\x00\x00\x00\x00\x09\x02",
		"\x05\x03\x00\x00\x00\x01\x00\x00\x00\x00\x02",
		"\x05\x03\x00\x00\x00\x01\x80\x00\x00\x00\x02",
		// 3
		"\x03\x00\x00\x00\x00" + user[5:],
		user + "\x00",
		"\x03\x00\x00\x00\x01",
		"\x03\x00\x00\x00\x01\x03BOB" + user[6+len(cat):],
		"\x03\x00\x00\x00\x01" + user[5:6+len(cat)] + "\x00\x00\x00\x00" + user[10+len(cat):],
		// 4
		"\x04\x00\x00\x00\x00\x02",
		"\x04\x00\x00\x00\x00\x02B",
		"\x04\x00\x00\x00\x00\x02" + strings.Repeat("x", 25),
		"\x04\x00\x00\x00\x00\x02\x03bob",
		"\x04\x01\x00\x00\x00\x02zoe",
		"\x04\x03\x00\x00\x00\x02zoe",
		"\x04\xff\x00\x00\x00\x02zoe",
		"\x04\x02\x00\x00\x00\x00zoe",
		// Of several the first one.
		"\x02\x03\x00\x00\x00\x01\x00\x00\x00\x01\x03",
		"\x05\x03\x00\x00\x00\x01\x00\x00\x00\x01\x03",
		"\x03\x00\x00\x00\x00" + string(userRec(1, fresh(ann)))[5:],
		"\x04\x01\x00\x00\x00\x02" + ann,
	} {
		wrong(t, p, []byte(rec), api.ErrForm)
	}
	for _, rec := range []string{held, user, string(fateRec(2, tx(3), 1)), string(fateRec(5, tx(9), 1))} {
		for n := range rec {
			wrong(t, p, []byte(rec[:n]), api.ErrForm)
		}
		redo(t, p.Fork(), []byte(rec))
	}
	for n := range 7 {
		wrong(t, p, []byte("\x04\x02\x00\x00\x00\x02zoe")[:min(n, 6)], api.ErrForm)
	}
	for _, s := range []api.Seat{{User: "z", Shard: 0, Epoch: 1}, {User: strings.Repeat("z", 24), Shard: 2, Epoch: top}} {
		redo(t, p, leftRec(s))
	}
	redo(t, p, userRec(top, fresh(cat)))
	wrong(t, p, userRec(1, api.User{Name: "zoe", Valid: 1}), api.ErrForm)
}

// P11.5: what does not fit what is.
func TestRedoState(t *testing.T) {
	p := folk(t)
	do(t, p, job(3, 1, leave(bob, 2, 2)))
	hold(t, p, job(4, 1, put(ann, "x"), open(cat), enter(fresh("zoe"), 2)))
	fates(t, p, 1, 1)
	known := api.Tx{Node: 9, Boot: 2, N: 1}
	for _, rec := range [][]byte{
		heldRec(job(4, 1, put(ann, "x"), open(cat), enter(fresh("zoe"), 2))), // held
		heldRec(job(4, 0, open(at(1, 5)))),
		heldRec(job(1, 0, open(at(1, 5)))),   // known
		heldRec(job(9, 1, open(ann))),        // there
		heldRec(job(9, 0, open(eve))),        // elsewhere
		heldRec(job(9, 1, put(bob, "x"))),    // left
		heldRec(job(9, 1, put(ann, "x"))),    // locked
		heldRec(job(9, 1, leave(ann, 2, 3))), // by no epoch of its
		heldRec(job(9, 0, open(at(1, 5)), open(at(1, 5)))),
		fateRec(2, tx(1), 1),
		fateRec(2, tx(1), 2),
		fateRec(2, known, 1),
		fateRec(2, known, 2),
		fateRec(2, tx(9), 1),
		fateRec(5, tx(1), 1),
		fateRec(5, tx(1), 2),
		fateRec(5, known, 2),
		fateRec(5, tx(4), 1),
		fateRec(5, tx(4), 2),
		userRec(1, fresh(ann)),
		userRec(2, fresh(ann)),
		userRec(1, fresh(cat)),   // locked
		userRec(3, fresh("zoe")), // locked
		leftRec(api.Seat{User: ann, Shard: 2, Epoch: 2}),
		leftRec(api.Seat{User: bob, Shard: 2, Epoch: 2}),
		leftRec(api.Seat{User: bob, Shard: 0, Epoch: 3}),
		leftRec(api.Seat{User: cat, Shard: 2, Epoch: 2}),
		leftRec(api.Seat{User: "zoe", Shard: 2, Epoch: 2}),
	} {
		wrong(t, p, rec, api.ErrState)
	}
	do(t, p, job(6, 0, open(at(1, 6))))
	wrong(t, p, heldRec(job(9, 1, cut(at(1, 6), 1))), api.ErrState) // the store's error
	// The state comes ahead of what is too much.
	fates(t, p, 2, 194) // five are known ahead, and one part is held
	wrong(t, p, fateRec(5, tx(1), 1), api.ErrState)
	wrong(t, p, fateRec(2, tx(1), 2), api.ErrState)
	wrong(t, p, fateRec(5, tx(4), 2), api.ErrState)
}

// P11.5: what becomes of each kind.
func TestRedo(t *testing.T) {
	p := shard(t)
	redo(t, p, heldRec(job(1, 0, open(ann))))
	if l := p.Held(); !sameParts(l, []api.Part{job(1, 0, open(ann))}) {
		t.Errorf("Held = %v", l)
	}
	redo(t, p, fateRec(2, tx(1), 1))
	redo(t, p, heldRec(job(2, 0, open(bob))))
	redo(t, p, fateRec(2, tx(2), 2))
	redo(t, p, fateRec(2, tx(3), 2))
	redo(t, p, fateRec(5, tx(4), 1))
	redo(t, p, fateRec(5, tx(5), 2))
	redo(t, p, userRec(7, fresh("zoe", "x")))
	redo(t, p, leftRec(api.Seat{User: bob, Shard: 2, Epoch: 8}))
	for n, want := range []api.Fate{api.Unknown, api.Done, api.Dropped, api.Dropped, api.Done, api.Dropped} {
		if f := p.Fate(tx(n)); f != want {
			t.Errorf("Fate(%d) = %d, want %d", n, f, want)
		}
	}
	if l := p.Seats(); !reflect.DeepEqual(l, []api.Seat{{User: ann, Shard: 1, Epoch: 1}, {User: bob, Shard: 2, Epoch: 8}, {User: "zoe", Shard: 1, Epoch: 7}}) || len(p.Held()) != 0 {
		t.Errorf("Seats = %v", l)
	}
	if u, _, e := p.Read("zoe", 7); !sameUser(u, fresh("zoe", "x")) || e != api.OK {
		t.Errorf("Read = %v, %d", u, e)
	}
	// A user who left is there again.
	redo(t, p, userRec(3, fresh(bob)))
	if l := p.Seats(); len(l) != 3 || l[1] != (api.Seat{User: bob, Shard: 1, Epoch: 3}) {
		t.Errorf("Seats = %v", l)
	}
	// A Leave, and an Enter.
	do(t, p, job(6, 7, leave("zoe", 0, 8)))
	do(t, p, job(7, 0, enter(fresh("zoe", "y"), 10)))
	if l := p.Seats(); len(l) != 3 || l[2] != (api.Seat{User: "zoe", Shard: 1, Epoch: 10}) {
		t.Errorf("Seats = %v", l)
	}
}

// P11.5: a Snapshot's records, in their order.
func TestSnapshot(t *testing.T) {
	p := shard(t)
	redo(t, p, userRec(7, fresh("zoe", "x")))
	redo(t, p, leftRec(api.Seat{User: "yan", Shard: 2, Epoch: 8}))
	redo(t, p, userRec(top, fresh("b")))
	redo(t, p, leftRec(api.Seat{User: "a", Shard: 0, Epoch: top}))
	l := []api.Tx{{Node: 0, Boot: 3, N: 1}, {Node: 0, Boot: 3, N: 300}, {Node: 0, Boot: 300, N: 2}, {Node: 2, Boot: 2, N: 9}, {Node: 200, Boot: 1, N: 1}, {Node: 255, Boot: 1, N: 1}}
	for _, i := range rand.New(rand.NewSource(11)).Perm(len(l)) {
		redo(t, p, fateRec(5, l[i], byte(1+i%2)))
	}
	x, y := job(9, 7, put("zoe", "z")), job(8, 0, open(cat))
	hold(t, p, x)
	hold(t, p, y)
	want := [][]byte{userRec(top, fresh("b")), userRec(7, fresh("zoe", "x")), leftRec(api.Seat{User: "a", Shard: 0, Epoch: top}), leftRec(api.Seat{User: "yan", Shard: 2, Epoch: 8})}
	for i, tx := range l {
		want = append(want, fateRec(5, tx, byte(1+i%2)))
	}
	want = append(want, heldRec(x), heldRec(y))
	got := p.Snapshot()
	if !reflect.DeepEqual(got, want) {
		t.Errorf("Snapshot = %q,\nwant %q", got, want)
	}
	q := shard(t)
	for _, rec := range got {
		redo(t, q, rec)
	}
	stays(t, q, all(t, p))
	if v, rec := q.Prepare(x); !sameVote(v, api.Vote{Numbers: []int{2}}) || len(rec) != 0 {
		t.Errorf("Prepare = %v, %q", v, rec)
	}
}

// P11.5, P11.8: of records in which some bytes are other ones none is taken but as it is told again.
func TestRedoOfAnyBytes(t *testing.T) {
	r := rand.New(rand.NewSource(115))
	p := folk(t)
	hold(t, p, job(3, 1, put(ann, "x")))
	recs := [][]byte{heldRec(job(9, 1, put(bob, "x"))), heldRec(job(9, 0, open(cat), enter(fresh("zoe", "x"), 3))), fateRec(2, tx(3), 1), fateRec(5, tx(9), 2), userRec(2, fresh("zoe", "x")), leftRec(api.Seat{User: "zoe", Shard: 2, Epoch: 2})}
	taken := 0
	for range 20000 {
		rec := append([]byte(nil), recs[r.Intn(len(recs))]...)
		for range r.Intn(3) {
			rec[r.Intn(len(rec))] = byte(r.Intn(256) >> r.Intn(8))
		}
		rec = rec[:len(rec)-r.Intn(2)*r.Intn(len(rec))/4]
		q := p.Fork()
		if e := q.Redo(rec); e != api.OK {
			wrong(t, p, rec, e)
			continue
		}
		taken++
		if rec[0] == 2 {
			continue // it is told as a fate
		}
		found := 0
		for _, s := range q.Snapshot() {
			if string(s) == string(rec) {
				found++
			}
		}
		if found != 1 {
			t.Fatalf("%q is taken, and told as %q", rec, q.Snapshot())
		}
	}
	if taken < 5000 {
		t.Errorf("only %d are taken", taken)
	}
}
