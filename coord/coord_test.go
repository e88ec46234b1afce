package coord_test

import (
	"encoding/binary"
	"math"
	"math/rand"
	"reflect"
	"testing"

	"pigeonhole/api"
	"pigeonhole/coord"
)

const life = 1<<31 - 1 // the greatest life, and number in it

func tx(boot, n int) api.Tx { return api.Tx{Node: 3, Boot: boot, N: n} }

// number4 is a number's four bytes.
func number4(b []byte, n int) []byte { return binary.BigEndian.AppendUint32(b, uint32(n)) }

// The records.
func bootRec(life int) []byte { return number4([]byte{1}, life) }
func doneRec(boot, n int, shards ...byte) []byte {
	return append(append(number4(number4([]byte{2}, boot), n), byte(len(shards))), shards...)
}
func overRec(boot, n int) []byte { return number4(number4([]byte{3}, boot), n) }

// node is the node 3, in its life 1.
func node(t *testing.T) *coord.Coord {
	t.Helper()
	c, e := coord.New(3)
	if c == nil || e != api.OK {
		t.Fatalf("New(3) = %v, %d", c, e)
	}
	redo(t, c, bootRec(1))
	return c
}

// redo has a record redone that is taken.
func redo(t *testing.T, c *coord.Coord, rec []byte) {
	t.Helper()
	if e := c.Redo(rec); e != api.OK {
		t.Fatalf("Redo(%q) = %d", rec, e)
	}
}

// begin begins a transaction.
func begin(t *testing.T, c *coord.Coord, shards ...int) api.Tx {
	t.Helper()
	x, e := c.Begin(shards)
	if e != api.OK {
		t.Fatalf("Begin(%v) = %d", shards, e)
	}
	return x
}

// vote has a shard vote yes, and asks for the record.
func vote(t *testing.T, c *coord.Coord, x api.Tx, shard int, want []byte) {
	t.Helper()
	if rec, e := c.Vote(x, shard, true); e != api.OK || string(rec) != string(want) {
		t.Fatalf("Vote(%v, %d) = %q, %d, want %q", x, shard, rec, e, want)
	}
}

// ack has a shard ack, and asks for the record.
func ack(t *testing.T, c *coord.Coord, x api.Tx, shard int, want []byte) {
	t.Helper()
	if rec, e := c.Ack(x, shard); e != api.OK || string(rec) != string(want) {
		t.Fatalf("Ack(%v, %d) = %q, %d, want %q", x, shard, rec, e, want)
	}
}

// finish begins a transaction, and has it be done.
func finish(t *testing.T, c *coord.Coord, shards ...int) api.Tx {
	t.Helper()
	x := begin(t, c, shards...)
	var rec []byte
	for i, n := range shards {
		var e api.Errno
		if rec, e = c.Vote(x, n, true); e != api.OK || (len(rec) > 0) != (i == len(shards)-1) {
			t.Fatalf("Vote(%v, %d) = %q, %d", x, n, rec, e)
		}
	}
	redo(t, c, rec)
	return x
}

// told is all that a node tells of itself: its records, what is to be told, and its fates.
type told struct {
	snapshot [][]byte
	todo     []api.Todo
	fates    map[api.Tx]api.Fate
	next     api.Tx
	boot     []byte
}

func all(c *coord.Coord) told {
	x := told{snapshot: c.Snapshot(), todo: c.Todo(), fates: map[api.Tx]api.Fate{}}
	for boot := range 4 {
		for n := range 16 {
			x.fates[tx(boot, n)] = c.Ask(tx(boot, n))
		}
	}
	x.next, _ = c.Fork().Begin([]int{0})
	x.boot, _ = c.Boot()
	return x
}

// stays tells whether a node is as it was.
func stays(t *testing.T, c *coord.Coord, was told) {
	t.Helper()
	if now := all(c); !reflect.DeepEqual(now, was) {
		t.Fatalf("it was\n%v\nand is\n%v", was, now)
	}
}

// asks holds a node's fates against what is wanted.
func asks(t *testing.T, c *coord.Coord, want map[api.Tx]api.Fate) {
	t.Helper()
	for x, f := range want {
		if got := c.Ask(x); got != f {
			t.Errorf("Ask(%v) = %d, want %d", x, got, f)
		}
	}
}

// todo holds what is to be told against what is wanted.
func todo(t *testing.T, c *coord.Coord, want ...api.Todo) {
	t.Helper()
	if l := c.Todo(); len(l) != len(want) || len(l) > 0 && !reflect.DeepEqual(l, want) {
		t.Errorf("Todo = %v, want %v", l, want)
	}
}

// P12.1
func TestNew(t *testing.T) {
	for n, want := range map[int]api.Errno{0: api.OK, 1: api.OK, 255: api.OK, -1: api.ErrArg, 256: api.ErrArg, math.MinInt: api.ErrArg, math.MaxInt: api.ErrArg} {
		c, e := coord.New(n)
		if e != want || (c != nil) != (want == api.OK) {
			t.Errorf("New(%d) = %v, %d", n, c, e)
			continue
		}
		if c == nil {
			continue
		}
		if len(c.Snapshot())+len(c.Todo()) != 0 {
			t.Errorf("New(%d) is not of life 0", n)
		}
		redo(t, c, bootRec(1))
		if x := begin(t, c, 0); x != (api.Tx{Node: n, Boot: 1, N: 1}) {
			t.Errorf("the node %d begins %v", n, x)
		}
	}
}

// P12.1, Boot: it changes nothing.
func TestBoot(t *testing.T) {
	c, _ := coord.New(3)
	for range 2 {
		if rec, e := c.Boot(); string(rec) != "\x01\x00\x00\x00\x01" || e != api.OK {
			t.Errorf("Boot = %q, %d", rec, e)
		}
	}
	if x, e := c.Begin([]int{0}); x != (api.Tx{}) || e != api.ErrState {
		t.Errorf("Begin = %v, %d", x, e)
	}
	redo(t, c, bootRec(0x01020304))
	if rec, e := c.Boot(); string(rec) != "\x01\x01\x02\x03\x05" || e != api.OK {
		t.Errorf("Boot = %q, %d", rec, e)
	}
	redo(t, c, bootRec(life-1))
	rec, e := c.Boot()
	if string(rec) != "\x01\x7f\xff\xff\xff" || e != api.OK {
		t.Errorf("Boot = %q, %d", rec, e)
	}
	redo(t, c, rec)
	if rec, e := c.Boot(); len(rec) != 0 || e != api.ErrFull {
		t.Errorf("Boot of the last life = %q, %d", rec, e)
	}
	if x := begin(t, c, 0); x != tx(life, 1) {
		t.Errorf("Begin = %v", x)
	}
}

// P12.2, Begin
func TestBegin(t *testing.T) {
	c := node(t)
	n := 0
	for i, x := range []struct {
		shards []int
		want   api.Errno
	}{
		{[]int{0}, api.OK},
		{[]int{3}, api.OK},
		{[]int{0, 3}, api.OK},
		{[]int{1, 2}, api.OK},
		{[]int{0, 1, 2, 3}, api.OK},
		{nil, api.ErrArg},
		{[]int{}, api.ErrArg},
		{[]int{-1}, api.ErrArg},
		{[]int{4}, api.ErrArg},
		{[]int{0, 4}, api.ErrArg},
		{[]int{-1, 0}, api.ErrArg},
		{[]int{1, 1}, api.ErrArg},
		{[]int{1, 0}, api.ErrArg},
		{[]int{0, 2, 1}, api.ErrArg},
		{[]int{0, 1, 2, 3, 4}, api.ErrArg},
		{make([]int, 1000), api.ErrArg},
		{[]int{math.MinInt, 0}, api.ErrArg},
		{[]int{0, math.MaxInt}, api.ErrArg},
	} {
		was := all(c)
		got, e := c.Begin(x.shards)
		if e != x.want {
			t.Errorf("%d: Begin(%v) = %v, %d", i, x.shards, got, e)
		}
		if e != api.OK {
			if got != (api.Tx{}) {
				t.Errorf("%d: beside the error stands %v", i, got)
			}
			stays(t, c, was)
			continue
		}
		n++
		if got != tx(1, n) || c.Ask(got) != api.Unknown {
			t.Errorf("%d: Begin(%v) = %v", i, x.shards, got)
		}
	}
	// The state comes first.
	c, _ = coord.New(3)
	if _, e := c.Begin(nil); e != api.ErrState {
		t.Errorf("Begin in the life 0 = %d", e)
	}
}

// P12.2: MaxOpen are under way, asked or done.
func TestMaxOpen(t *testing.T) {
	c := node(t)
	for range 3 {
		finish(t, c, 0, 1)
	}
	for range 5 {
		begin(t, c, 0, 1)
	}
	was := all(c)
	if x, e := c.Begin([]int{0}); x != (api.Tx{}) || e != api.ErrFull {
		t.Errorf("Begin = %v, %d", x, e)
	}
	if _, e := c.Begin([]int{4}); e != api.ErrArg {
		t.Errorf("Begin = %d", e)
	}
	if e := c.Redo(doneRec(1, 9, 0)); e != api.ErrFull {
		t.Errorf("Redo = %d", e)
	}
	// The state comes ahead of what is too much.
	for _, rec := range [][]byte{doneRec(2, 9, 0), doneRec(1, 1, 0, 1), doneRec(1, 4, 0, 1)} {
		if e := c.Redo(rec); e != api.ErrState {
			t.Errorf("Redo(%q) = %d", rec, e)
		}
	}
	stays(t, c, was)
	// One that is asked has its place already.
	vote(t, c, tx(1, 5), 1, nil)
	vote(t, c, tx(1, 5), 0, doneRec(1, 5, 0, 1))
	redo(t, c, doneRec(1, 5, 0, 1))
	if _, e := c.Begin([]int{0}); e != api.ErrFull {
		t.Errorf("Begin = %d", e)
	}
	redo(t, c, overRec(1, 2))
	if x := begin(t, c, 0); x != tx(1, 9) {
		t.Errorf("Begin = %v", x)
	}
	if e := c.Drop(tx(1, 4)); e != api.OK {
		t.Errorf("Drop = %d", e)
	}
	if x := begin(t, c, 0); x != tx(1, 10) {
		t.Errorf("Begin = %v", x)
	}
	if _, e := c.Begin([]int{0}); e != api.ErrFull {
		t.Errorf("Begin = %d", e)
	}
}

// P12.2: the last number in a life.
func TestLastNumber(t *testing.T) {
	for last, want := range map[int]int{life - 3: life - 2, life - 2: life - 1, life - 1: 0, life: 0} {
		c := node(t)
		redo(t, c, doneRec(1, last, 2))
		was := all(c)
		x, e := c.Begin([]int{0})
		if want > 0 && (x != tx(1, want) || e != api.OK) || want == 0 && (x != api.Tx{} || e != api.ErrFull) {
			t.Errorf("behind %d Begin = %v, %d", last, x, e)
		}
		if want == 0 {
			stays(t, c, was)
		}
		asks(t, c, map[api.Tx]api.Fate{tx(1, last): api.Done, tx(1, last-1): api.Dropped, tx(1, last+1): api.Unknown})
		redo(t, c, bootRec(2))
		if x := begin(t, c, 0); x != tx(2, 1) {
			t.Errorf("Begin = %v", x)
		}
	}
	c := node(t)
	redo(t, c, doneRec(1, life-2, 2))
	begin(t, c, 0)
	if _, e := c.Begin([]int{0}); e != api.ErrFull {
		t.Errorf("Begin = %d", e)
	}
}

// P12.2, Vote
func TestVote(t *testing.T) {
	c := node(t)
	x := begin(t, c, 0, 2, 3)
	over := finish(t, c, 1)
	gone := begin(t, c, 1)
	if e := c.Drop(gone); e != api.OK {
		t.Fatalf("Drop = %d", e)
	}
	other := x
	other.Node = 4
	for i, v := range []struct {
		tx    api.Tx
		shard int
		yes   bool
		want  api.Errno
	}{
		{api.Tx{}, 0, true, api.ErrGone},
		{tx(1, 4), 0, true, api.ErrGone},
		{tx(2, 1), 0, true, api.ErrGone},
		{tx(0, 1), 0, false, api.ErrGone},
		{other, 0, true, api.ErrGone},
		{over, 1, true, api.ErrGone},
		{over, 1, false, api.ErrGone},
		{gone, 1, true, api.ErrGone},
		{gone, 9, true, api.ErrGone},
		{x, 1, true, api.ErrArg},
		{x, 1, false, api.ErrArg},
		{x, -1, true, api.ErrArg},
		{x, 4, false, api.ErrArg},
		{x, math.MaxInt, true, api.ErrArg},
		{x, math.MinInt, false, api.ErrArg},
	} {
		was := all(c)
		if rec, e := c.Vote(v.tx, v.shard, v.yes); len(rec) != 0 || e != v.want {
			t.Errorf("%d: Vote(%v, %d, %v) = %q, %d, want %d", i, v.tx, v.shard, v.yes, rec, e, v.want)
		}
		stays(t, c, was)
	}
	vote(t, c, x, 2, nil)
	vote(t, c, x, 2, nil)
	vote(t, c, x, 0, nil)
	rec := doneRec(1, 1, 0, 2, 3)
	if string(rec) != "\x02\x00\x00\x00\x01\x00\x00\x00\x01\x03\x00\x02\x03" {
		t.Fatalf("the record is %q", rec)
	}
	vote(t, c, x, 3, rec)
	// All voted yes: it is asked as long as the record is not redone, and a no comes too late.
	was := all(c)
	vote(t, c, x, 0, rec)
	for shard, want := range map[int]api.Errno{0: api.ErrState, 3: api.ErrState, 1: api.ErrArg} {
		if rec, e := c.Vote(x, shard, false); len(rec) != 0 || e != want {
			t.Errorf("Vote of no = %q, %d", rec, e)
		}
	}
	stays(t, c, was)
	asks(t, c, map[api.Tx]api.Fate{x: api.Unknown})
	redo(t, c, rec)
	asks(t, c, map[api.Tx]api.Fate{x: api.Done})
}

// P12.2: one no, and it is dropped.
func TestNo(t *testing.T) {
	for _, no := range []int{0, 1, 2} {
		c := node(t)
		x := begin(t, c, 0, 1, 2)
		y := begin(t, c, 1)
		vote(t, c, x, 0, nil)
		vote(t, c, x, 1, nil)
		if rec, e := c.Vote(x, no, false); len(rec) != 0 || e != api.OK {
			t.Errorf("Vote of no = %q, %d", rec, e)
		}
		asks(t, c, map[api.Tx]api.Fate{x: api.Dropped, y: api.Unknown})
		todo(t, c, api.Todo{Tx: y, Shard: 1})
		if rec, e := c.Vote(x, 2, true); len(rec) != 0 || e != api.ErrGone {
			t.Errorf("Vote = %q, %d", rec, e)
		}
	}
}

// P12.2, Drop
func TestDrop(t *testing.T) {
	c := node(t)
	x, y, z := begin(t, c, 0, 1), begin(t, c, 0, 1), finish(t, c, 2)
	vote(t, c, x, 0, nil)
	vote(t, c, x, 1, doneRec(1, 1, 0, 1))
	vote(t, c, y, 0, nil)
	was := all(c)
	for x, want := range map[api.Tx]api.Errno{{}: api.ErrGone, tx(1, 9): api.ErrGone, tx(2, 2): api.ErrGone, {Node: 4, Boot: 1, N: 2}: api.ErrGone, z: api.ErrGone, x: api.ErrState} {
		if e := c.Drop(x); e != want {
			t.Errorf("Drop(%v) = %d, want %d", x, e, want)
		}
		stays(t, c, was)
	}
	if e := c.Drop(y); e != api.OK {
		t.Errorf("Drop = %d", e)
	}
	if e := c.Drop(y); e != api.ErrGone {
		t.Errorf("Drop = %d", e)
	}
	asks(t, c, map[api.Tx]api.Fate{x: api.Unknown, y: api.Dropped, z: api.Done})
	todo(t, c, api.Todo{Tx: z, Shard: 2, Fate: api.Done})
}

// P12.2, Ack
func TestAck(t *testing.T) {
	c := node(t)
	x, y := finish(t, c, 0, 2, 3), begin(t, c, 0)
	other := x
	other.Node = 2
	for i, v := range []struct {
		tx    api.Tx
		shard int
		want  api.Errno
	}{
		{api.Tx{}, 0, api.ErrGone},
		{y, 0, api.ErrGone},
		{y, 9, api.ErrGone},
		{other, 0, api.ErrGone},
		{tx(1, 7), 0, api.ErrGone},
		{x, 1, api.ErrArg},
		{x, -1, api.ErrArg},
		{x, 4, api.ErrArg},
		{x, math.MaxInt, api.ErrArg},
		{x, math.MinInt, api.ErrArg},
	} {
		was := all(c)
		if rec, e := c.Ack(v.tx, v.shard); len(rec) != 0 || e != v.want {
			t.Errorf("%d: Ack(%v, %d) = %q, %d, want %d", i, v.tx, v.shard, rec, e, v.want)
		}
		stays(t, c, was)
	}
	ack(t, c, x, 3, nil)
	ack(t, c, x, 3, nil)
	ack(t, c, x, 0, nil)
	rec := overRec(1, 1)
	if string(rec) != "\x03\x00\x00\x00\x01\x00\x00\x00\x01" {
		t.Fatalf("the record is %q", rec)
	}
	ack(t, c, x, 2, rec)
	ack(t, c, x, 0, rec)
	asks(t, c, map[api.Tx]api.Fate{x: api.Done})
	todo(t, c, api.Todo{Tx: y, Shard: 0})
	redo(t, c, rec)
	asks(t, c, map[api.Tx]api.Fate{x: api.Dropped})
	if rec, e := c.Ack(x, 0); len(rec) != 0 || e != api.ErrGone {
		t.Errorf("Ack = %q, %d", rec, e)
	}
}

// P12.3, Ask
func TestAsk(t *testing.T) {
	c, _ := coord.New(3)
	asks(t, c, map[api.Tx]api.Fate{tx(0, 1): api.Unknown, tx(1, 1): api.Unknown, {}: api.Unknown})
	redo(t, c, bootRec(2))
	redo(t, c, doneRec(1, 7, 1))
	redo(t, c, doneRec(2, 3, 1))
	x := begin(t, c, 0)
	asks(t, c, map[api.Tx]api.Fate{
		x:                              api.Unknown,
		tx(2, 5):                       api.Unknown,
		tx(2, 3):                       api.Done,
		tx(2, 2):                       api.Dropped,
		tx(2, 1):                       api.Dropped,
		tx(2, 0):                       api.Unknown,
		tx(2, -1):                      api.Unknown,
		tx(2, math.MaxInt):             api.Unknown,
		tx(1, 7):                       api.Done,
		tx(1, 6):                       api.Dropped,
		tx(1, 8):                       api.Dropped,
		tx(1, life):                    api.Dropped,
		tx(1, math.MaxInt):             api.Dropped,
		tx(1, 0):                       api.Unknown,
		tx(1, math.MinInt):             api.Unknown,
		tx(0, 1):                       api.Unknown,
		tx(-1, 1):                      api.Unknown,
		tx(3, 1):                       api.Unknown,
		tx(math.MaxInt, 1):             api.Unknown,
		{Node: 2, Boot: 1, N: 6}:       api.Unknown,
		{Node: 4, Boot: 1, N: 7}:       api.Unknown,
		{Node: 3 - 256, Boot: 1, N: 6}: api.Unknown,
	})
}

// P12.3, Todo
func TestTodo(t *testing.T) {
	c := node(t)
	todo(t, c)
	x, y, z := begin(t, c, 1, 3), begin(t, c, 0, 1, 2), begin(t, c, 0, 1)
	vote(t, c, y, 1, nil)
	vote(t, c, z, 0, nil)
	vote(t, c, z, 1, doneRec(1, 3, 0, 1))
	todo(t, c, api.Todo{Tx: x, Shard: 1}, api.Todo{Tx: x, Shard: 3}, api.Todo{Tx: y, Shard: 0}, api.Todo{Tx: y, Shard: 2})
	redo(t, c, doneRec(1, 3, 0, 1))
	vote(t, c, x, 3, nil)
	vote(t, c, x, 1, doneRec(1, 1, 1, 3))
	redo(t, c, doneRec(1, 1, 1, 3))
	// What is done comes behind the others.
	w := begin(t, c, 2)
	todo(t, c, api.Todo{Tx: y, Shard: 0}, api.Todo{Tx: y, Shard: 2}, api.Todo{Tx: z, Shard: 0, Fate: api.Done}, api.Todo{Tx: z, Shard: 1, Fate: api.Done},
		api.Todo{Tx: x, Shard: 1, Fate: api.Done}, api.Todo{Tx: x, Shard: 3, Fate: api.Done}, api.Todo{Tx: w, Shard: 2})
	ack(t, c, z, 0, nil)
	ack(t, c, x, 1, nil)
	ack(t, c, x, 3, overRec(1, 1))
	todo(t, c, api.Todo{Tx: y, Shard: 0}, api.Todo{Tx: y, Shard: 2}, api.Todo{Tx: z, Shard: 1, Fate: api.Done}, api.Todo{Tx: w, Shard: 2})
}

// The chapter's example.
func TestExample(t *testing.T) {
	c, _ := coord.New(3)
	rec, e := c.Boot()
	if e != api.OK {
		t.Fatalf("Boot = %d", e)
	}
	redo(t, c, rec)
	x := begin(t, c, 0, 1)
	vote(t, c, x, 0, nil)
	rec, e = c.Vote(x, 1, true)
	if e != api.OK || len(rec) == 0 || c.Ask(x) != api.Unknown {
		t.Fatalf("Vote = %q, %d, and Ask is %d", rec, e, c.Ask(x))
	}
	redo(t, c, rec)
	if c.Ask(x) != api.Done {
		t.Errorf("Ask = %d", c.Ask(x))
	}
}

// P1, P2: a node that is nil, and one that no call made.
func TestNil(t *testing.T) {
	var none *coord.Coord
	if rec, e := none.Boot(); rec != nil || e != api.ErrNil {
		t.Errorf("Boot of nil = %q, %d", rec, e)
	}
	if x, e := none.Begin([]int{0}); x != (api.Tx{}) || e != api.ErrNil {
		t.Errorf("Begin of nil = %v, %d", x, e)
	}
	if rec, e := none.Vote(tx(1, 1), 0, true); rec != nil || e != api.ErrNil {
		t.Errorf("Vote of nil = %q, %d", rec, e)
	}
	if rec, e := none.Ack(tx(1, 1), 0); rec != nil || e != api.ErrNil {
		t.Errorf("Ack of nil = %q, %d", rec, e)
	}
	if e, f := none.Drop(tx(1, 1)), none.Redo(nil); e != api.ErrNil || f != api.ErrNil {
		t.Errorf("Drop, Redo of nil = %d, %d", e, f)
	}
	if none.Ask(tx(1, 1)) != api.Unknown || none.Todo() != nil || none.Snapshot() != nil || none.Fork() != nil {
		t.Error("nil tells of itself")
	}
	for _, recs := range [][][]byte{{}, {bootRec(1)}, {doneRec(1, 1, 0)}, {bootRec(1), doneRec(1, 1, 0), overRec(1, 1)}} {
		zero := new(coord.Coord)
		for _, rec := range recs {
			zero.Redo(rec)
		}
		zero.Boot()
		x, _ := zero.Begin([]int{0})
		zero.Vote(x, 0, true)
		zero.Drop(x)
		zero.Ack(x, 0)
		zero.Ask(x)
		zero.Todo()
		zero.Snapshot()
		zero.Fork()
	}
}

// P3: what is handed in stays, and is not kept; what is answered is new.
func TestMemory(t *testing.T) {
	c := node(t)
	shards := make([]int, 2, 9)
	shards[1] = 1
	x, _ := c.Begin(shards)
	if !reflect.DeepEqual(shards[:9], []int{0, 1, 0, 0, 0, 0, 0, 0, 0}) {
		t.Error("Begin changed what it was handed")
	}
	was := all(c)
	spoil(shards, 3)
	stays(t, c, was)
	vote(t, c, x, 0, nil)
	rec, _ := c.Vote(x, 1, true)
	kept := string(rec)
	redo(t, c, rec)
	if string(rec) != kept {
		t.Error("Redo changed what it was handed")
	}
	was = all(c)
	spoil(rec, 'z')
	spoil(c.Todo(), api.Todo{Shard: 9})
	for _, rec := range c.Snapshot() {
		spoil(rec, 'z')
	}
	spoil(c.Snapshot(), nil)
	rec, _ = c.Boot()
	spoil(rec, 'z')
	stays(t, c, was)
	ack(t, c, x, 0, nil)
	rec, _ = c.Ack(x, 1)
	spoil(rec, 'z')
	ack(t, c, x, 1, overRec(1, 1))
}

// spoil overwrites all that lies in a list, and in the room behind its end.
func spoil[T any](l []T, by T) {
	l = l[:cap(l)]
	for i := range l {
		l[i] = by
	}
}

// P4: of a node and its Fork, what becomes of the one changes nothing of the other one.
func TestFork(t *testing.T) {
	r := rand.New(rand.NewSource(12))
	for range 300 {
		c := node(t)
		for range r.Intn(12) {
			some(r, c)
		}
		d := c.Fork()
		was := all(c)
		stays(t, d, was)
		for range 8 {
			some(r, d)
		}
		stays(t, c, was)
		was = all(d)
		for range 8 {
			some(r, c)
		}
		stays(t, d, was)
	}
}

// some has something happen to a node.
func some(r *rand.Rand, c *coord.Coord) {
	x := tx(1+r.Intn(2), 1+r.Intn(6))
	switch r.Intn(8) {
	case 0, 1:
		c.Begin([]int{0, 1 + r.Intn(2)})
	case 2, 3:
		rec, _ := c.Vote(x, r.Intn(3), r.Intn(8) > 0)
		c.Redo(rec)
	case 4, 5:
		rec, _ := c.Ack(x, r.Intn(3))
		c.Redo(rec)
	case 6:
		c.Drop(x)
	case 7:
		c.Redo([][]byte{bootRec(2), doneRec(x.Boot, x.N, 0, 1), overRec(x.Boot, x.N)}[r.Intn(3)])
	}
}
