package part_test

import (
	"cmp"
	"maps"
	"math/rand"
	"slices"
	"strconv"
	"testing"

	"pigeonhole/api"
	"pigeonhole/deed"
	"pigeonhole/part"
	"pigeonhole/place"
	"pigeonhole/store"
)

// model is what a shard is to be, reckoned in another way: those who are there, and who left, stand apart; each vote is kept.
type model struct {
	shard, shards int
	here          map[string]int
	left          map[string]api.Seat
	boxes         *store.Store
	held          []api.Part
	votes         map[api.Tx]api.Vote
	fates         map[api.Tx]api.Fate
}

func newModel(shard, shards int) *model {
	return &model{shard, shards, map[string]int{}, map[string]api.Seat{}, store.New(), nil, map[api.Tx]api.Vote{}, map[api.Tx]api.Fate{}}
}

func (m *model) fork() *model {
	return &model{m.shard, m.shards, maps.Clone(m.here), maps.Clone(m.left), m.boxes.Fork(), slices.Clone(m.held), maps.Clone(m.votes), maps.Clone(m.fates)}
}

func (m *model) seat(user string) api.Seat {
	if e, there := m.here[user]; there {
		return api.Seat{User: user, Shard: m.shard, Epoch: e}
	}
	if s, gone := m.left[user]; gone {
		return s
	}
	home, _ := place.Home(user, m.shards)
	return api.Seat{User: user, Shard: home, Epoch: 1}
}

func (m *model) holds(tx api.Tx) bool {
	for _, x := range m.held {
		if x.Tx == tx {
			return true
		}
	}
	return false
}

func (m *model) locked(user string) bool {
	for _, x := range m.held {
		for _, d := range x.Deeds {
			if d.User == user {
				return true
			}
		}
	}
	return false
}

// full reckons sets of names, as the chapter's words are.
func (m *model) full(more ...api.Deed) bool {
	there, gone := map[string]bool{}, map[string]bool{}
	for user := range m.here {
		there[user] = true
	}
	for user := range m.left {
		gone[user] = true
	}
	for _, x := range append(slices.Clone(m.held), api.Part{Deeds: more}) {
		for _, d := range x.Deeds {
			if d.Do == api.Open || d.Do == api.Enter {
				there[d.User] = true
			}
			if d.Do == api.Leave {
				gone[d.User] = true
			}
		}
	}
	return len(there) > 16 || len(gone) > 64
}

func (m *model) form(x api.Part) api.Errno {
	ok := x.Tx.Node >= 0 && x.Tx.Node < 256 && x.Tx.Boot > 0 && x.Tx.Boot <= life && x.Tx.N > 0 && x.Tx.N <= life
	mine := false
	for i, n := range x.Peers {
		ok = ok && n >= 0 && n < m.shards && (i == 0 || n > x.Peers[i-1])
		mine = mine || n == m.shard
	}
	ok = ok && mine && len(x.Epochs) == len(x.Deeds)
	for _, n := range x.Epochs {
		ok = ok && n >= 0 && n <= top
	}
	if !ok {
		return api.ErrArg
	}
	_, e := deed.PutAll(x.Deeds)
	return e
}

func (m *model) prepare(x api.Part) (api.Vote, bool) {
	if e := m.form(x); e != api.OK {
		return no(e), false
	}
	if m.holds(x.Tx) {
		return m.votes[x.Tx], false
	}
	if m.fates[x.Tx] != api.Unknown {
		return no(api.ErrState), false
	}
	if len(m.held) == 8 || len(m.fates)+len(m.held) >= 200 {
		return no(api.ErrFull), false
	}
	for i, d := range x.Deeds {
		if v := m.prepareDeed(x, i, d); v.Errno != api.OK {
			return v, false
		}
	}
	if m.full(x.Deeds...) {
		return no(api.ErrFull), false
	}
	numbers, _, e := m.boxes.Try(x.Deeds)
	if e != api.OK {
		return no(e), false
	}
	v := api.Vote{Numbers: numbers}
	for _, d := range slices.Backward(x.Deeds) {
		if d.Do == api.Leave {
			u, _ := m.boxes.User(d.User)
			v.Bytes, _ = deed.PutUser(u)
		}
	}
	return v, true
}

func (m *model) prepareDeed(x api.Part, i int, d api.Deed) api.Vote {
	seat := m.seat(d.User)
	epoch, there := m.here[d.User]
	stale := api.Vote{Errno: api.ErrStale, Seat: seat}
	if d.Do == api.Open && (there || seat.Shard != m.shard) || d.Do == api.Enter && there {
		return stale
	}
	if d.Do != api.Open && d.Do != api.Enter && (!there || x.Epochs[i] != epoch) {
		return stale
	}
	if d.Do == api.Enter && d.Epoch <= seat.Epoch {
		return stale
	}
	if d.Do == api.Leave && !(d.Epoch == epoch+1 && d.Shard != m.shard && d.Shard < m.shards) {
		return no(api.ErrArg)
	}
	if m.locked(d.User) {
		return no(api.ErrBusy)
	}
	all := func(d api.Deed) bool { return d.Do == api.Open || d.Do == api.Enter || d.Do == api.Leave }
	for _, o := range x.Deeds[:i] {
		if o.User == d.User && (all(o) || all(d)) {
			return no(api.ErrArg)
		}
	}
	return api.Vote{}
}

// hold, decide, come, leave and know are Redo of the kinds 1 to 5.
func (m *model) hold(x api.Part) api.Errno {
	if m.form(x) != api.OK {
		return api.ErrForm
	}
	v, fits := m.prepare(x)
	if !fits {
		return api.ErrState
	}
	m.held, m.votes[x.Tx] = append(m.held, x), v
	return api.OK
}

func (m *model) decide(tx api.Tx, fate api.Fate) api.Errno {
	held := m.holds(tx)
	if m.fates[tx] != api.Unknown || fate == api.Done && !held {
		return api.ErrState
	}
	if !held && len(m.fates)+len(m.held) >= 200 {
		return api.ErrFull
	}
	m.fates[tx] = fate
	var rest []api.Part
	for _, x := range m.held {
		if x.Tx != tx {
			rest = append(rest, x)
		} else if fate == api.Done {
			m.do(x)
		}
	}
	m.held = rest
	return api.OK
}

func (m *model) do(x api.Part) {
	numbers, _, e := m.boxes.Do(x.Deeds)
	if e != api.OK || !slices.Equal(numbers, m.votes[x.Tx].Numbers) {
		panic("what is held is done in another way") // P11.9
	}
	for _, d := range x.Deeds {
		switch d.Do {
		case api.Open:
			m.here[d.User] = 1
		case api.Enter:
			m.here[d.User] = d.Epoch
			delete(m.left, d.User)
		case api.Leave:
			delete(m.here, d.User)
			m.left[d.User] = api.Seat{User: d.User, Shard: d.Shard, Epoch: d.Epoch}
		}
	}
}

func (m *model) come(u api.User, epoch int) api.Errno {
	if _, there := m.here[u.Name]; there || m.locked(u.Name) {
		return api.ErrState
	}
	if m.full(open(u.Name)) {
		return api.ErrFull
	}
	m.boxes.Do([]api.Deed{enter(u, epoch)})
	m.here[u.Name] = epoch
	delete(m.left, u.Name)
	return api.OK
}

func (m *model) leave(s api.Seat) api.Errno {
	_, there := m.here[s.User]
	_, gone := m.left[s.User]
	switch {
	case s.Shard == m.shard || s.Shard >= m.shards:
		return api.ErrForm
	case there || gone || m.locked(s.User):
		return api.ErrState
	case m.full(leave(s.User, 0, 1)):
		return api.ErrFull
	}
	m.left[s.User] = s
	return api.OK
}

func (m *model) know(tx api.Tx, fate api.Fate) api.Errno {
	if m.fates[tx] != api.Unknown || m.holds(tx) {
		return api.ErrState
	}
	if len(m.fates)+len(m.held) >= 200 {
		return api.ErrFull
	}
	m.fates[tx] = fate
	return api.OK
}

// snapshot is a shard's records, by the model.
func (m *model) snapshot() []string {
	var l []string
	for _, user := range slices.Sorted(maps.Keys(m.here)) {
		u, _ := m.boxes.User(user)
		l = append(l, string(userRec(m.here[user], u)))
	}
	for _, user := range slices.Sorted(maps.Keys(m.left)) {
		l = append(l, string(leftRec(m.left[user])))
	}
	known := slices.SortedFunc(maps.Keys(m.fates), func(a, b api.Tx) int {
		return cmp.Or(a.Node-b.Node, a.Boot-b.Boot, a.N-b.N)
	})
	for _, tx := range known {
		l = append(l, string(fateRec(5, tx, byte(m.fates[tx]))))
	}
	for _, x := range m.held {
		l = append(l, string(heldRec(x)))
	}
	return l
}

// random has a shard and its model go through the same.
type random struct {
	*rand.Rand
	t *testing.T
	m *model
	p *part.Part
	n map[string]int // how often something was met
	// log is the records that were redone.
	log [][]byte
}

func (r *random) user() string { return "u" + strconv.Itoa(r.Intn(40)) }

func (r *random) tx() api.Tx {
	if r.Intn(40) == 0 {
		return api.Tx{Node: r.Intn(300) - 20, Boot: r.Intn(3), N: r.Intn(9)}
	}
	return api.Tx{Node: r.Intn(3), Boot: 1 + r.Intn(2), N: 1 + r.Intn(25)}
}

// known is a transaction that is held, if one is.
func (r *random) known() api.Tx {
	if len(r.m.held) == 0 || r.Intn(8) == 0 {
		return r.tx()
	}
	return r.m.held[r.Intn(len(r.m.held))].Tx
}

func (r *random) letters() api.User {
	var l []string
	for range r.Intn(3) {
		l = append(l, "abc"[:r.Intn(4)])
	}
	return fresh(r.user(), l...)
}

// deed is one that often fits.
func (r *random) deed() (api.Deed, int) {
	user := r.user()
	seat := r.m.seat(user)
	epoch := seat.Epoch
	if r.Intn(20) == 0 {
		epoch += r.Intn(3) - 1
	}
	if _, there := r.m.here[user]; !there && r.Intn(10) > 0 {
		if seat.Shard == r.m.shard && seat.Epoch == 1 && r.Intn(2) == 0 {
			return open(user), r.Intn(2)
		}
		u := r.letters()
		u.Name = user
		return enter(u, epoch+1), r.Intn(2)
	}
	switch r.Intn(8) {
	case 0:
		return leave(user, r.Intn(r.m.shards), max(epoch+1, 1)), epoch
	case 1, 2:
		return add(user, "b"), epoch
	case 3:
		return cut(user, 1+r.Intn(3)), epoch
	}
	return put(user, "abcdef"[:r.Intn(6)]), epoch
}

func (r *random) part() api.Part {
	x := api.Part{Tx: r.tx(), Peers: []int{}}
	for n := range r.m.shards {
		if n == r.m.shard && r.Intn(60) > 0 || n != r.m.shard && r.Intn(2) == 0 {
			x.Peers = append(x.Peers, n)
		}
	}
	for range 1 + r.Intn(2)*r.Intn(4) {
		d, epoch := r.deed()
		x.Deeds, x.Epochs = append(x.Deeds, d), append(x.Epochs, epoch)
	}
	if r.Intn(60) == 0 {
		x.Epochs[0] = -1
	}
	return x
}

// met is whether both have the same error, which is counted.
func (r *random) met(what string, got, want api.Errno) {
	r.t.Helper()
	if got != want {
		r.t.Fatalf("%s = %d, want %d", what, got, want)
	}
	r.n[what+" "+strconv.Itoa(int(want))]++
}

// redo has a record redone, of which the model tells what is wanted.
func (r *random) redo(what string, rec []byte, want api.Errno) {
	r.t.Helper()
	r.met(what, r.p.Redo(rec), want)
	if want == api.OK {
		r.log = append(r.log, rec)
	}
}

// step has one thing happen to both.
func (r *random) step() {
	r.t.Helper()
	switch r.Intn(16) {
	case 0, 1, 2, 3, 4:
		x := r.part()
		want, fits := r.m.prepare(x)
		v, rec := r.p.Prepare(x)
		r.met("Prepare", v.Errno, want.Errno)
		if !sameVote(v, want) || fits != (len(rec) > 0) || fits && string(rec) != string(heldRec(x)) {
			r.t.Fatalf("Prepare(%v) = %v, %q, want %v", x, v, rec, want)
		}
		if r.Intn(10) > 0 && r.m.form(x) == api.OK {
			r.redo("Redo 1", heldRec(x), r.m.hold(x))
		}
	case 5, 6, 7:
		r.decide()
	case 8:
		u, epoch := r.letters(), 1+r.Intn(4)
		r.redo("Redo 3", userRec(epoch, u), r.m.come(u, epoch))
	case 9:
		s := api.Seat{User: r.user(), Shard: r.Intn(4), Epoch: 1 + r.Intn(4)}
		r.redo("Redo 4", leftRec(s), r.m.leave(s))
	case 10:
		tx, fate := r.tx(), api.Fate(1+r.Intn(2))
		if tx.Node >= 0 && tx.Node < 256 && tx.Boot > 0 && tx.N > 0 {
			r.redo("Redo 5", fateRec(5, tx, byte(fate)), r.m.know(tx, fate))
		}
	default:
		r.read()
	}
}

// decide has both decide, or be asked; and has the record redone.
func (r *random) decide() {
	r.t.Helper()
	tx, done := r.known(), r.Intn(2) == 0
	fate := api.Dropped
	if done {
		fate = api.Done
	}
	right := tx.Node >= 0 && tx.Node < 256 && tx.Boot > 0 && tx.N > 0
	was, held, crowded := r.m.fates[tx], r.m.holds(tx), len(r.m.fates)+len(r.m.held) >= 200
	want := api.OK
	switch {
	case !right:
		want = api.ErrArg
	case was == fate || held:
	case was != api.Unknown:
		want = api.ErrState
	case done:
		want = api.ErrGone
	case crowded:
		want = api.ErrFull
	}
	rec, e := r.p.Decide(tx, done)
	r.met("Decide", e, want)
	if (len(rec) > 0) != (want == api.OK && was == api.Unknown) || len(rec) > 0 && string(rec) != string(fateRec(2, tx, byte(fate))) {
		r.t.Fatalf("Decide(%v, %v) = %q", tx, done, rec)
	}
	asked, needs := was, false
	if right && !held && was == api.Unknown && !crowded {
		asked, needs = api.Dropped, true
	}
	f, rec := r.p.Ask(tx)
	if f != asked || (len(rec) > 0) != needs || needs && string(rec) != string(fateRec(2, tx, 2)) {
		r.t.Fatalf("Ask(%v) = %d, %q, want %d", tx, f, rec, asked)
	}
	if right {
		r.redo("Redo 2", fateRec(2, tx, byte(fate)), r.m.decide(tx, fate))
	}
}

// read has a user be read of both.
func (r *random) read() {
	r.t.Helper()
	user := r.user()
	seat := r.m.seat(user)
	epoch := seat.Epoch + r.Intn(3)/2
	want, wantUser := api.OK, api.User{}
	if e, there := r.m.here[user]; !there || e != epoch {
		want = api.ErrStale
	} else if r.m.locked(user) {
		want = api.ErrBusy
	} else {
		wantUser, _ = r.m.boxes.User(user)
	}
	u, s, e := r.p.Read(user, epoch)
	r.met("Read", e, want)
	if want != api.ErrStale {
		seat = api.Seat{}
	}
	if !sameUser(u, wantUser) || s != seat {
		r.t.Fatalf("Read(%s, %d) = %v, %v, want %v", user, epoch, u, s, seat)
	}
	wantUser, want = r.m.boxes.User(user)
	if u, e := r.p.Look(user); e != want || !sameUser(u, wantUser) {
		r.t.Fatalf("Look(%s) = %v, %d", user, u, e)
	}
}

// alike tells whether both are alike.
func (r *random) alike(p *part.Part) {
	r.t.Helper()
	var got []string
	for _, rec := range p.Snapshot() {
		got = append(got, string(rec))
	}
	if !slices.Equal(got, r.m.snapshot()) || !sameParts(p.Held(), r.m.held) {
		r.t.Fatalf("it tells %q,\nwant %q", got, r.m.snapshot())
	}
	var seats []api.Seat
	for _, user := range slices.Sorted(maps.Keys(r.m.here)) {
		seats = append(seats, r.m.seat(user))
	}
	for _, s := range r.m.left {
		seats = append(seats, s)
	}
	slices.SortFunc(seats, func(a, b api.Seat) int { return cmp.Compare(a.User, b.User) })
	if !slices.Equal(p.Seats(), seats) {
		r.t.Fatalf("Seats = %v, want %v", p.Seats(), seats)
	}
	for tx, f := range r.m.fates {
		if p.Fate(tx) != f {
			r.t.Fatalf("Fate(%v) = %d, want %d", tx, p.Fate(tx), f)
		}
	}
	for _, x := range r.m.held {
		if v, rec := p.Prepare(x); !sameVote(v, r.m.votes[x.Tx]) || len(rec) != 0 {
			r.t.Fatalf("Prepare of what is held = %v, want %v", v, r.m.votes[x.Tx])
		}
	}
}

// P11.2 to P11.9: a shard is what the model is, whatever happens; so are its Fork, one made of its Snapshot, and one of all records.
func TestModel(t *testing.T) {
	r := &random{rand.New(rand.NewSource(11)), t, nil, nil, map[string]int{}, nil}
	for round := range 180 {
		shards := 1 + r.Intn(4)
		shard := r.Intn(shards)
		r.p, _ = part.New(shard, shards)
		r.m, r.log = newModel(shard, shards), nil
		if round%3 == 0 && shards > 1 {
			for i := range 62 {
				s := api.Seat{User: "left" + strconv.Itoa(i), Shard: (shard + 1) % shards, Epoch: 2}
				r.redo("Redo 4", leftRec(s), r.m.leave(s))
			}
		}
		if round%3 == 1 {
			for i := range 180 {
				tx := api.Tx{Node: 9, Boot: 2, N: 1 + i}
				r.redo("Redo 5", fateRec(5, tx, 1), r.m.know(tx, api.Done))
			}
		}
		for step := range 150 {
			r.step()
			if step%10 != 0 {
				continue
			}
			r.alike(r.p)
			q, _ := part.New(shard, shards)
			for _, rec := range r.p.Snapshot() {
				redo(t, q, rec)
			}
			r.alike(q)
			other := &random{r.Rand, t, r.m.fork(), r.p.Fork(), r.n, nil}
			for range 5 {
				other.step()
			}
			other.alike(other.p)
			r.alike(r.p)
			if r.Intn(2) == 0 {
				r.p = q
			}
		}
		again, _ := part.New(shard, shards)
		for _, rec := range r.log {
			redo(t, again, rec)
		}
		r.alike(again)
	}
	for _, what := range []string{"Prepare 0", "Prepare 2", "Prepare 8", "Prepare 9", "Prepare 10", "Prepare 11", "Prepare 12", "Prepare 13", "Decide 0", "Decide 2", "Decide 8", "Decide 9", "Decide 13", "Redo 1 0", "Redo 1 13", "Redo 2 0", "Redo 2 8", "Redo 2 13", "Redo 3 0", "Redo 3 8", "Redo 3 13", "Redo 4 0", "Redo 4 4", "Redo 4 8", "Redo 4 13", "Redo 5 0", "Redo 5 8", "Redo 5 13", "Read 0", "Read 11", "Read 12"} {
		if r.n[what] < 10 {
			t.Errorf("%s was met %d times", what, r.n[what])
		}
	}
}
