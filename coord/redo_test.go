package coord_test

import (
	"cmp"
	"math/rand"
	"reflect"
	"slices"
	"strconv"
	"testing"

	"pigeonhole/api"
	"pigeonhole/coord"
)

// wrong has a record be refused.
func wrong(t *testing.T, c *coord.Coord, rec []byte, want api.Errno) {
	t.Helper()
	was := all(c)
	if e := c.Redo(rec); e != want {
		t.Errorf("Redo(%q) = %d, want %d", rec, e, want)
	}
	stays(t, c, was)
}

// P12.4: what is no record, of each kind.
func TestRedoForm(t *testing.T) {
	c := node(t)
	finish(t, c, 0, 1)
	for _, rec := range []string{
		"", "\x00", "\x04", "\xff", "\x00\x00\x00\x00\x02", "\x04\x00\x00\x00\x02",
		"\x01\x00\x00\x00\x00", "\x01\x80\x00\x00\x00", "\x01\xff\xff\xff\xff", "\x01\x00\x00\x00\x02\x00", "\x01\x00\x00\x00\x01\x00",
		"\x02\x00\x00\x00\x00\x00\x00\x00\x05\x01\x00",
		"\x02\x80\x00\x00\x01\x00\x00\x00\x05\x01\x00",
		"\x02\x00\x00\x00\x01\x00\x00\x00\x00\x01\x00",
		"\x02\x00\x00\x00\x01\x80\x00\x00\x00\x01\x00",
		"\x02\x00\x00\x00\x01\x00\x00\x00\x05\x00",
		"\x02\x00\x00\x00\x01\x00\x00\x00\x05\x00\x00",
		"\x02\x00\x00\x00\x01\x00\x00\x00\x05\x01\x04",
		"\x02\x00\x00\x00\x01\x00\x00\x00\x05\x01\xff",
		"\x02\x00\x00\x00\x01\x00\x00\x00\x05\x01\x00\x01",
		"\x02\x00\x00\x00\x01\x00\x00\x00\x05\x02\x01\x01",
		"\x02\x00\x00\x00\x01\x00\x00\x00\x05\x02\x01\x00",
		"\x02\x00\x00\x00\x01\x00\x00\x00\x05\x03\x00\x01",
		"\x02\x00\x00\x00\x01\x00\x00\x00\x05\x05\x00\x01\x02\x03\x04",
		"\x02\x00\x00\x00\x01\x00\x00\x00\x05\xff\x00\x01\x02\x03",
		"\x03\x00\x00\x00\x00\x00\x00\x00\x01",
		"\x03\x00\x00\x00\x01\x00\x00\x00\x00",
		"\x03\xff\xff\xff\xff\x00\x00\x00\x01",
		"\x03\x00\x00\x00\x01\xff\xff\xff\xff",
		"\x03\x00\x00\x00\x01\x00\x00\x00\x01\x00",
		// Of several the first one.
		"\x02\x00\x00\x00\x02\x00\x00\x00\x05\x01\x04",
		"\x03\x00\x00\x00\x02\x00\x00\x00\x00",
	} {
		wrong(t, c, []byte(rec), api.ErrForm)
	}
	for _, rec := range [][]byte{bootRec(2), doneRec(1, 5, 0, 1, 2, 3), doneRec(1, 5, 3), overRec(1, 1)} {
		for n := range rec {
			wrong(t, c, rec[:n], api.ErrForm)
		}
		redo(t, c.Fork(), rec)
	}
}

// P12.4, of 1
func TestRedoLife(t *testing.T) {
	c := node(t)
	wrong(t, c, bootRec(1), api.ErrState)
	x, y, z := begin(t, c, 0), finish(t, c, 1), begin(t, c, 0, 1)
	vote(t, c, x, 0, doneRec(1, 1, 0))
	wrong(t, c, bootRec(1), api.ErrState)
	redo(t, c, bootRec(5))
	asks(t, c, map[api.Tx]api.Fate{x: api.Dropped, y: api.Done, z: api.Dropped, tx(5, 1): api.Unknown, tx(4, 1): api.Dropped})
	todo(t, c, api.Todo{Tx: y, Shard: 1, Fate: api.Done})
	wrong(t, c, bootRec(5), api.ErrState)
	wrong(t, c, bootRec(4), api.ErrState)
	if x := begin(t, c, 0); x != tx(5, 1) {
		t.Errorf("Begin = %v", x)
	}
	redo(t, c, bootRec(life))
	wrong(t, c, bootRec(life), api.ErrState)
	// As many as may be are under way again.
	for range 7 {
		begin(t, c, 0)
	}
	if _, e := c.Begin([]int{0}); e != api.ErrFull {
		t.Errorf("Begin = %d", e)
	}
}

// P12.4, of 2
func TestRedoDone(t *testing.T) {
	c, _ := coord.New(3)
	wrong(t, c, doneRec(1, 1, 0), api.ErrState)
	redo(t, c, bootRec(3))
	wrong(t, c, doneRec(4, 1, 0), api.ErrState)
	x, y := begin(t, c, 0, 1), begin(t, c, 0, 1)
	wrong(t, c, doneRec(3, 1, 0, 1), api.ErrState)
	vote(t, c, x, 0, nil)
	wrong(t, c, doneRec(3, 1, 0, 1), api.ErrState)
	wrong(t, c, doneRec(3, 1, 0), api.ErrState)
	vote(t, c, x, 1, doneRec(3, 1, 0, 1))
	for _, rec := range [][]byte{doneRec(3, 1, 0), doneRec(3, 1, 0, 1, 2), doneRec(3, 1, 0, 2), doneRec(3, 2, 0, 1)} {
		wrong(t, c, rec, api.ErrState)
	}
	redo(t, c, doneRec(3, 1, 0, 1))
	wrong(t, c, doneRec(3, 1, 0, 1), api.ErrState)
	wrong(t, c, doneRec(3, 1, 2), api.ErrState)
	ack(t, c, x, 0, nil)
	wrong(t, c, doneRec(3, 1, 0, 1), api.ErrState)
	// The next number is above it, in the node's life alone, and never less than it was.
	redo(t, c, doneRec(2, 77, 2))
	asks(t, c, map[api.Tx]api.Fate{tx(2, 77): api.Done, tx(3, 3): api.Unknown})
	redo(t, c, doneRec(3, 8, 2))
	if z := begin(t, c, 0); z != tx(3, 9) {
		t.Errorf("Begin = %v", z)
	}
	redo(t, c, doneRec(3, 5, 2))
	if z := begin(t, c, 0); z != tx(3, 10) {
		t.Errorf("Begin = %v", z)
	}
	asks(t, c, map[api.Tx]api.Fate{tx(3, 5): api.Done, tx(3, 6): api.Dropped, tx(3, 8): api.Done, tx(3, 9): api.Unknown, y: api.Unknown})
	// Once it is over, nothing is known of it.
	redo(t, c, overRec(3, 1))
	redo(t, c, doneRec(3, 1, 3))
	asks(t, c, map[api.Tx]api.Fate{x: api.Done})
}

// P12.4, of 3
func TestRedoOver(t *testing.T) {
	c := node(t)
	x, y, z := finish(t, c, 0, 1), begin(t, c, 0), finish(t, c, 2)
	wrong(t, c, overRec(1, 2), api.ErrState)
	wrong(t, c, overRec(1, 9), api.ErrState)
	wrong(t, c, overRec(2, 1), api.ErrState)
	redo(t, c, overRec(1, 1)) // though nobody acked
	wrong(t, c, overRec(1, 1), api.ErrState)
	asks(t, c, map[api.Tx]api.Fate{x: api.Dropped, y: api.Unknown, z: api.Done})
	todo(t, c, api.Todo{Tx: y, Shard: 0}, api.Todo{Tx: z, Shard: 2, Fate: api.Done})
	if x := begin(t, c, 0); x != tx(1, 4) {
		t.Errorf("Begin = %v", x)
	}
}

// P12.4, Snapshot
func TestSnapshot(t *testing.T) {
	c, _ := coord.New(3)
	if l := c.Snapshot(); len(l) != 0 {
		t.Errorf("Snapshot = %q", l)
	}
	redo(t, c, bootRec(2))
	redo(t, c, doneRec(1, 9, 0, 3))
	redo(t, c, doneRec(2, 5, 1))
	begin(t, c, 0)
	redo(t, c, doneRec(2, 3, 2))
	begin(t, c, 1)
	ack(t, c, tx(1, 9), 0, nil)
	want := [][]byte{bootRec(2), doneRec(1, 9, 0, 3), doneRec(2, 5, 1), doneRec(2, 3, 2)}
	got := c.Snapshot()
	if !reflect.DeepEqual(got, want) {
		t.Errorf("Snapshot = %q, want %q", got, want)
	}
	d, _ := coord.New(3)
	for _, rec := range got {
		redo(t, d, rec)
	}
	if !reflect.DeepEqual(d.Snapshot(), want) {
		t.Errorf("Snapshot = %q, want %q", d.Snapshot(), want)
	}
	todo(t, d, api.Todo{Tx: tx(1, 9), Shard: 0, Fate: api.Done}, api.Todo{Tx: tx(1, 9), Shard: 3, Fate: api.Done}, api.Todo{Tx: tx(2, 5), Shard: 1, Fate: api.Done}, api.Todo{Tx: tx(2, 3), Shard: 2, Fate: api.Done})
	if x := begin(t, d, 0); x != tx(2, 6) {
		t.Errorf("Begin = %v", x)
	}
}

// model is what a node is to be, reckoned in another way: maps, and an order by numbers that rise.
type model struct {
	life, next, turn int
	under            map[api.Tx]*under
}

type under struct {
	turn   int
	shards []int
	said   map[int]bool
	done   bool
}

func (u *under) all() bool { return len(u.said) == len(u.shards) }

// add has a transaction be under way, behind the others.
func (m *model) add(x api.Tx, shards []int, done bool) {
	m.turn++
	m.under[x] = &under{m.turn, shards, map[int]bool{}, done}
}

// order is what is under way, in order.
func (m *model) order() []api.Tx {
	var l []api.Tx
	for x := range m.under {
		l = append(l, x)
	}
	slices.SortFunc(l, func(a, b api.Tx) int { return cmp.Compare(m.under[a].turn, m.under[b].turn) })
	return l
}

// asked and done are a transaction, if it is that.
func (m *model) asked(x api.Tx) *under {
	if u := m.under[x]; u != nil && !u.done {
		return u
	}
	return nil
}

func (m *model) done(x api.Tx) *under {
	if u := m.under[x]; u != nil && u.done {
		return u
	}
	return nil
}

func (m *model) vote(x api.Tx, shard int, yes bool) ([]byte, api.Errno) {
	u := m.asked(x)
	switch {
	case u == nil:
		return nil, api.ErrGone
	case !slices.Contains(u.shards, shard):
		return nil, api.ErrArg
	case !yes && u.all():
		return nil, api.ErrState
	case !yes:
		delete(m.under, x)
		return nil, api.OK
	}
	u.said[shard] = true
	if !u.all() {
		return nil, api.OK
	}
	return doneRec(x.Boot, x.N, asBytes(u.shards)...), api.OK
}

func asBytes(l []int) []byte {
	var b []byte
	for _, n := range l {
		b = append(b, byte(n))
	}
	return b
}

func (m *model) ack(x api.Tx, shard int) ([]byte, api.Errno) {
	u := m.done(x)
	switch {
	case u == nil:
		return nil, api.ErrGone
	case !slices.Contains(u.shards, shard):
		return nil, api.ErrArg
	}
	u.said[shard] = true
	if !u.all() {
		return nil, api.OK
	}
	return overRec(x.Boot, x.N), api.OK
}

func (m *model) drop(x api.Tx) api.Errno {
	u := m.asked(x)
	if u == nil {
		return api.ErrGone
	}
	if u.all() {
		return api.ErrState
	}
	delete(m.under, x)
	return api.OK
}

func (m *model) ask(x api.Tx) api.Fate {
	if x.Node != 3 || x.Boot < 1 || x.Boot > m.life || x.N < 1 || x.Boot == m.life && x.N >= m.next || m.asked(x) != nil {
		return api.Unknown
	}
	if m.done(x) != nil {
		return api.Done
	}
	return api.Dropped
}

func (m *model) boot(life int) api.Errno {
	if life <= m.life {
		return api.ErrState
	}
	m.life, m.next = life, 1
	for _, x := range m.order() {
		if m.asked(x) != nil {
			delete(m.under, x)
		}
	}
	return api.OK
}

func (m *model) finish(x api.Tx, shards []int) api.Errno {
	u := m.asked(x)
	switch {
	case x.Boot > m.life, m.done(x) != nil, u != nil && (!u.all() || !slices.Equal(u.shards, shards)):
		return api.ErrState
	case len(m.under) == 8 && u == nil:
		return api.ErrFull
	}
	delete(m.under, x)
	m.add(x, shards, true)
	if x.Boot == m.life && m.next <= x.N {
		m.next = x.N + 1
	}
	return api.OK
}

func (m *model) end(x api.Tx) api.Errno {
	if m.done(x) == nil {
		return api.ErrState
	}
	delete(m.under, x)
	return api.OK
}

func (m *model) todo() []api.Todo {
	var l []api.Todo
	for _, x := range m.order() {
		u, fate := m.under[x], api.Unknown
		if u.done {
			fate = api.Done
		}
		for _, n := range u.shards {
			if !u.said[n] {
				l = append(l, api.Todo{Tx: x, Shard: n, Fate: fate})
			}
		}
	}
	return l
}

func (m *model) snapshot() [][]byte {
	if m.life == 0 {
		return nil
	}
	l := [][]byte{bootRec(m.life)}
	for _, x := range m.order() {
		if u := m.done(x); u != nil {
			l = append(l, doneRec(x.Boot, x.N, asBytes(u.shards)...))
		}
	}
	return l
}

// subset is some shards that rise.
func subset(r *rand.Rand) []int {
	for {
		var l []int
		for n := range 4 {
			if r.Intn(2) == 0 {
				l = append(l, n)
			}
		}
		if len(l) > 0 {
			return l
		}
	}
}

// P12.2 to P12.6: a node is what the model is, whatever happens.
func TestModel(t *testing.T) {
	r := rand.New(rand.NewSource(12))
	met := map[string]int{}
	for range 300 {
		c, _ := coord.New(3)
		m := &model{next: 1, under: map[api.Tx]*under{}}
		given := map[api.Tx]bool{}
		check := func(what string, got, want api.Errno, rec, wantRec []byte) {
			t.Helper()
			if got != want || string(rec) != string(wantRec) {
				t.Fatalf("%s = %q, %d, want %q, %d", what, rec, got, wantRec, want)
			}
			met[what+" "+strconv.Itoa(int(want))]++
		}
		for range 120 {
			x := tx(max(0, m.life-r.Intn(2)), m.next-r.Intn(9))
			if l := m.order(); len(l) > 0 && r.Intn(3) > 0 {
				x = l[r.Intn(len(l))]
			}
			shard := r.Intn(4)
			switch r.Intn(16) {
			case 0, 1, 2, 3:
				l, want := subset(r), api.OK
				switch {
				case m.life == 0:
					want = api.ErrState
				case len(m.under) == 8:
					want = api.ErrFull
				}
				y, e := c.Begin(l)
				check("Begin", e, want, nil, nil)
				if want == api.OK {
					if y != tx(m.life, m.next) || given[y] {
						t.Fatalf("Begin = %v", y)
					}
					given[y] = true
					m.add(y, l, false)
					m.next++
				}
			case 4, 5, 6, 7, 8:
				yes := r.Intn(9) > 0
				rec, e := c.Vote(x, shard, yes)
				wantRec, want := m.vote(x, shard, yes)
				check("Vote", e, want, rec, wantRec)
				if len(rec) > 0 && r.Intn(2) == 0 {
					check("Redo 2", c.Redo(rec), m.finish(x, slices.Clone(m.under[x].shards)), nil, nil)
				}
			case 9, 10, 11:
				rec, e := c.Ack(x, shard)
				wantRec, want := m.ack(x, shard)
				check("Ack", e, want, rec, wantRec)
				if len(rec) > 0 && r.Intn(2) == 0 {
					check("Redo 3", c.Redo(rec), m.end(x), nil, nil)
				}
			case 12:
				check("Drop", c.Drop(x), m.drop(x), nil, nil)
			case 13:
				if l := subset(r); x.Boot > 0 && x.N > 0 {
					x.Boot += r.Intn(8) / 7
					if u := m.under[x]; u != nil && r.Intn(2) == 0 {
						l = u.shards
					}
					check("Redo 2", c.Redo(doneRec(x.Boot, x.N, asBytes(l)...)), m.finish(x, l), nil, nil)
				}
			case 14:
				if x.Boot > 0 && x.N > 0 && r.Intn(3) == 0 {
					check("Redo 3", c.Redo(overRec(x.Boot, x.N)), m.end(x), nil, nil)
				}
			case 15:
				if n := m.life + r.Intn(3) - 1; n > 0 && (r.Intn(3) == 0 || m.life == 0) {
					check("Redo 1", c.Redo(bootRec(n)), m.boot(n), nil, nil)
				}
			}
			alike(t, c, m)
			again(t, c, m)
		}
	}
	for _, what := range []string{"Begin 0", "Begin 8", "Begin 13", "Vote 0", "Vote 2", "Vote 9", "Vote 13", "Ack 0", "Ack 2", "Ack 9", "Drop 0", "Drop 9", "Drop 13", "Redo 1 0", "Redo 1 13", "Redo 2 0", "Redo 2 8", "Redo 2 13", "Redo 3 0", "Redo 3 13"} {
		if met[what] < 10 {
			t.Errorf("%s was met %d times", what, met[what])
		}
	}
}

// alike holds what a node tells against the model.
func alike(t *testing.T, c *coord.Coord, m *model) {
	t.Helper()
	if l := m.todo(); !slices.Equal(c.Todo(), l) {
		t.Fatalf("Todo = %v, want %v", c.Todo(), l)
	}
	if l := m.snapshot(); !reflect.DeepEqual(c.Snapshot(), l) {
		t.Fatalf("Snapshot = %q, want %q", c.Snapshot(), l)
	}
	for boot := m.life - 3; boot < m.life+2; boot++ {
		for n := m.next - 12; n < m.next+3; n++ {
			x := tx(boot, n)
			if got, want := c.Ask(x), m.ask(x); got != want {
				t.Fatalf("Ask(%v) = %d, want %d", x, got, want)
			}
		}
	}
	if rec, e := c.Boot(); e != api.OK || string(rec) != string(bootRec(m.life+1)) {
		t.Fatalf("Boot = %q, %d", rec, e)
	}
}

// again has a Snapshot redone by a new node: it is alike but for what is asked, for acks, and for the next number.
func again(t *testing.T, c *coord.Coord, m *model) {
	t.Helper()
	d, _ := coord.New(3)
	for _, rec := range c.Snapshot() {
		redo(t, d, rec)
	}
	n := &model{life: m.life, next: 1, under: map[api.Tx]*under{}}
	for _, x := range m.order() {
		if u := m.done(x); u != nil {
			n.add(x, u.shards, true)
			if x.Boot == n.life {
				n.next = max(n.next, x.N+1)
			}
		}
	}
	alike(t, d, n)
}

// P12.5, P12.6: a node falls and starts, and what was sure is redone; no Tx is given twice, and no fate is taken back.
func TestLives(t *testing.T) {
	r := rand.New(rand.NewSource(126))
	for range 200 {
		c, _ := coord.New(3)
		var log [][]byte
		given := map[api.Tx]bool{}
		voted := map[api.Tx]map[int]bool{}
		dropped := map[api.Tx]bool{}
		sure := func(rec []byte, e api.Errno) {
			t.Helper()
			if e == api.OK && len(rec) > 0 {
				redo(t, c, rec)
				log = append(log, rec)
			}
		}
		sure(c.Boot())
		for range 150 {
			l := c.Todo()
			switch n := r.Intn(20); {
			case n == 0: // it falls, and all that is redone is what was sure, or a Snapshot of that
				if r.Intn(2) == 0 {
					log = c.Snapshot()
				}
				c, _ = coord.New(3)
				for _, rec := range log {
					redo(t, c, rec)
				}
				sure(c.Boot())
			case n < 7:
				if x, e := c.Begin([]int{0, 1, 2}); e == api.OK {
					if given[x] {
						t.Fatalf("%v is given twice", x)
					}
					given[x], voted[x] = true, map[int]bool{}
				}
			case len(l) > 0:
				w := l[r.Intn(len(l))]
				if w.Fate == api.Done {
					if len(voted[w.Tx]) != 3 {
						t.Fatalf("%v is done, and %v voted yes", w.Tx, voted[w.Tx])
					}
					sure(c.Ack(w.Tx, w.Shard))
					continue
				}
				yes := r.Intn(9) > 0
				if yes {
					voted[w.Tx][w.Shard] = true
				}
				sure(c.Vote(w.Tx, w.Shard, yes))
			}
			for x := range given {
				f := c.Ask(x)
				if dropped[x] && f != api.Dropped || f == api.Done && len(voted[x]) != 3 {
					t.Fatalf("%v was dropped (%v), has the votes %v, and is told %d", x, dropped[x], voted[x], f)
				}
				dropped[x] = f == api.Dropped
			}
		}
	}
}
