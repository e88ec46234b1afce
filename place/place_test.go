package place_test

import (
	"hash/fnv"
	"math"
	"math/rand"
	"slices"
	"sort"
	"strconv"
	"strings"
	"testing"

	"pigeonhole/api"
	"pigeonhole/place"
)

// users are texts of any bytes.
var users = []string{"", "a", "b", "A", "bob", "Bob", "bob.x", "ä", "\xff", "\x00", "\ufffd", "a\x00", "aa", strings.Repeat("u", 1<<16)}

// fresh is a map that knows nothing.
func fresh(t *testing.T, shards int) *place.Map {
	t.Helper()
	m, e := place.New(shards)
	if m == nil || e != api.OK {
		t.Fatal("New", shards, e)
	}
	return m
}

// learn has a map learn a seat.
func learn(t *testing.T, m *place.Map, user string, shard, epoch int, want api.Errno) {
	t.Helper()
	if e := m.Learn(api.Seat{User: user, Shard: shard, Epoch: epoch}); e != want {
		t.Errorf("Learn(%.20q, %d, %d) = %d, want %d", user, shard, epoch, e, want)
	}
}

// seat holds where a map says that a user is against where that is.
func seat(t *testing.T, m *place.Map, user string, shard, epoch int) {
	t.Helper()
	if s, e := m.Seat(user); s != (api.Seat{User: user, Shard: shard, Epoch: epoch}) || e != api.OK {
		t.Errorf("Seat(%.20q) = %d, %d of %.20q, %d, want %d, %d", user, s.Shard, s.Epoch, s.User, e, shard, epoch)
	}
}

// home is where a user is at first.
func home(t *testing.T, user string, shards int) int {
	t.Helper()
	h, e := place.Home(user, shards)
	if e != api.OK {
		t.Fatal("Home", shards, e)
	}
	return h
}

// alike: do two maps tell the same?
func alike(a, b *place.Map) bool {
	if !slices.Equal(a.Seats(), b.Seats()) {
		return false
	}
	for _, u := range append([]string{"u0", "u1", "u63", "u64"}, users...) {
		s, e := a.Seat(u)
		if o, f := b.Seat(u); s != o || e != f {
			return false
		}
	}
	return true
}

// P4.1, Hash, which goes round (P5)
func TestHash(t *testing.T) {
	for user, want := range map[string]uint32{
		"": 0x811c9dc5, "a": 0xe40c292c, "b": 0xe70c2de5, "foobar": 0xbf9cf968, "\x00": 0x050c5d1f, "\xff": 0x7a0b824e, "ä": 0x199de0e2,
	} {
		if got := place.Hash(user); got != want {
			t.Errorf("Hash(%q) = %x", user, got)
		}
	}
	r := rand.New(rand.NewSource(41))
	texts := slices.Clone(users)
	for range 1000 {
		b := make([]byte, r.Intn(20))
		r.Read(b)
		texts = append(texts, string(b))
	}
	for b := range 256 {
		texts = append(texts, string([]byte{byte(b)}))
	}
	for _, user := range texts {
		h := fnv.New32a()
		h.Write([]byte(user))
		if got := place.Hash(user); got != h.Sum32() {
			t.Errorf("Hash(%.20q) = %x, want %x", user, got, h.Sum32())
		}
	}
}

// P4.1, Home
func TestHome(t *testing.T) {
	for _, user := range users {
		for shards := 1; shards <= 4; shards++ {
			if h, e := place.Home(user, shards); h != int(uint64(place.Hash(user))%uint64(shards)) || e != api.OK {
				t.Errorf("Home(%.20q, %d) = %d, %d", user, shards, h, e)
			}
		}
		for _, shards := range []int{0, -1, 5, 1 << 32, 1<<32 + 1, math.MaxInt, math.MinInt} {
			if h, e := place.Home(user, shards); h != 0 || e != api.ErrArg {
				t.Errorf("Home(%.20q, %d) = %d, %d", user, shards, h, e)
			}
		}
	}
	if home(t, "", 4) != 1 || home(t, "a", 4) != 0 || home(t, "a", 3) != 0xe40c292c%3 {
		t.Error("the examples are elsewhere")
	}
}

// P4.1, New
func TestNew(t *testing.T) {
	for shards := 1; shards <= 4; shards++ {
		m := fresh(t, shards)
		if len(m.Seats()) != 0 {
			t.Error("a new map knows some")
		}
		for _, user := range users {
			seat(t, m, user, home(t, user, shards), 1)
		}
	}
	for _, shards := range []int{0, -1, 5, 1<<32 + 1, math.MaxInt, math.MinInt} {
		if m, e := place.New(shards); m != nil || e != api.ErrArg {
			t.Errorf("New(%d) = %v, %d", shards, m, e)
		}
	}
}

// P4.2: what is known is told, of others what is at first.
func TestSeat(t *testing.T) {
	m := fresh(t, 3)
	learn(t, m, "bob", 2, 7, api.OK)
	learn(t, m, "\xff", 0, 2, api.OK)
	learn(t, m, "", 1, math.MaxInt, api.OK)
	seat(t, m, "bob", 2, 7)
	seat(t, m, "\xff", 0, 2)
	seat(t, m, "", 1, math.MaxInt)
	for _, other := range []string{"Bob", "bo", "bob ", "\xfe", "\ufffd", "\x00"} {
		seat(t, m, other, home(t, other, 3), 1)
	}
	learn(t, m, "bob", 0, 8, api.OK)
	seat(t, m, "bob", 0, 8)
	if len(m.Seats()) != 3 {
		t.Error("one is known twice", m.Seats())
	}
}

// P4.2, Learn: what is wrong, and of several errors the first one; nothing is learnt by it (P2).
func TestLearnFaults(t *testing.T) {
	for shards := 1; shards <= 4; shards++ {
		m := fresh(t, shards)
		learn(t, m, "a", 0, 5, api.OK)
		before := m.Fork()
		for _, user := range []string{"a", "b", ""} {
			for _, shard := range []int{-1, shards, shards + 1, 4, 1 << 32, math.MaxInt, math.MinInt} {
				for _, epoch := range []int{-1, 0, 1, 5, 6, math.MaxInt, math.MinInt} {
					learn(t, m, user, shard, epoch, api.ErrArg)
				}
			}
			for shard := range shards {
				for _, epoch := range []int{0, -1, math.MinInt} {
					learn(t, m, user, shard, epoch, api.ErrArg)
				}
				learn(t, m, user, shard, 1, api.ErrStale) // who is at first there has the epoch 1
			}
		}
		for shard := range shards {
			for epoch := 1; epoch <= 5; epoch++ {
				learn(t, m, "a", shard, epoch, api.ErrStale)
			}
		}
		if !alike(m, before) {
			t.Error("something was learnt beside an error")
		}
		learn(t, m, "a", shards-1, 6, api.OK)
		learn(t, m, "b", 0, 2, api.OK)
		learn(t, m, "b", 0, math.MaxInt, api.OK)
		learn(t, m, "b", 0, math.MaxInt, api.ErrStale)
		seat(t, m, "b", 0, math.MaxInt)
	}
}

// P4.2, Learn: no more than MaxUsers are known.
func TestLearnFull(t *testing.T) {
	m := fresh(t, 4)
	for i := range 64 {
		learn(t, m, "u"+strconv.Itoa(i), i%4, 2, api.OK)
	}
	before := m.Fork()
	learn(t, m, "u64", 1, 2, api.ErrFull)
	learn(t, m, "", 1, 2, api.ErrFull)
	learn(t, m, "u64", 1, 1, api.ErrStale) // that is told ahead of it
	learn(t, m, "u64", 4, 2, api.ErrArg)
	learn(t, m, "u64", 1, 0, api.ErrArg)
	if !alike(m, before) {
		t.Error("a full one learnt something")
	}
	learn(t, m, "u63", 0, 3, api.OK) // it is one of those that are known
	learn(t, m, "u63", 1, 3, api.ErrStale)
	seat(t, m, "u63", 0, 3)
	seat(t, m, "u64", home(t, "u64", 4), 1)
	if len(m.Seats()) != 64 {
		t.Error("others are known than were learnt")
	}
}

// P4.2, Seats
func TestSeats(t *testing.T) {
	r := rand.New(rand.NewSource(42))
	for range 20 {
		m := fresh(t, 4)
		for _, i := range r.Perm(len(users)) {
			learn(t, m, users[i], i%4, 2+i, api.OK)
		}
		l := m.Seats()
		if !sort.SliceIsSorted(l, func(i, j int) bool { return l[i].User < l[j].User }) || len(l) != len(users) {
			t.Fatal("not by the bytes of their users")
		}
		for _, s := range l {
			if i := slices.Index(users, s.User); i < 0 || s.Shard != i%4 || s.Epoch != 2+i {
				t.Fatal("another seat is told", s.Shard, s.Epoch)
			}
		}
	}
	// Who is asked for is not known by that.
	m := fresh(t, 2)
	m.Seat("a")
	learn(t, m, "a", 0, 1, api.ErrStale)
	if len(m.Seats()) != 0 {
		t.Error("none was learnt", m.Seats())
	}
}

// P4.2, Fork; and P4: what becomes of the one changes nothing of the other one.
func TestFork(t *testing.T) {
	m := fresh(t, 3)
	learn(t, m, "a", 1, 2, api.OK)
	f := m.Fork()
	if f == nil || f == m || !alike(f, m) {
		t.Fatal("a fork is another one, and alike")
	}
	learn(t, m, "a", 2, 3, api.OK)
	learn(t, m, "b", 2, 3, api.OK)
	seat(t, f, "a", 1, 2)
	seat(t, f, "b", home(t, "b", 3), 1)
	learn(t, f, "c", 0, 9, api.OK)
	learn(t, f, "a", 0, 4, api.OK)
	learn(t, f, "d", 3, 2, api.ErrArg) // it has as many shards
	seat(t, m, "a", 2, 3)
	seat(t, m, "c", home(t, "c", 3), 1)
	if len(m.Seats()) != 2 || len(f.Seats()) != 2 {
		t.Error("what became of one became of the other one, too")
	}
	e := fresh(t, 2).Fork()
	learn(t, e, "a", 1, 2, api.OK)
	seat(t, e, "a", 1, 2)
}

// P3: what is answered is new memory.
func TestSeatsAreNew(t *testing.T) {
	m := fresh(t, 2)
	learn(t, m, "a", 1, 2, api.OK)
	learn(t, m, "b", 1, 2, api.OK)
	l, k := m.Seats(), m.Seats()
	l[0] = api.Seat{User: "c", Shard: 9, Epoch: 9}
	_ = append(l[:1], api.Seat{})
	seat(t, m, "a", 1, 2)
	seat(t, m, "b", 1, 2)
	if k[0].User != "a" || k[1].User != "b" || !slices.Equal(m.Seats(), k) {
		t.Error("an answer lies in another one")
	}
}

// P1: of nil.
func TestNil(t *testing.T) {
	var m *place.Map
	if s, e := m.Seat("a"); s != (api.Seat{}) || e != api.ErrNil {
		t.Error("Seat", s, e)
	}
	if m.Learn(api.Seat{User: "a", Epoch: 2}) != api.ErrNil || m.Learn(api.Seat{Shard: -1}) != api.ErrNil {
		t.Error("Learn")
	}
	if len(m.Seats()) != 0 || m.Fork() != nil {
		t.Error("Seats, Fork")
	}
}

// P4.3: the order in which seats are learnt, and how often, plays no part.
func TestOrder(t *testing.T) {
	r := rand.New(rand.NewSource(43))
	for range 300 {
		shards := 1 + r.Intn(4)
		var l []api.Seat
		greatest := map[string]api.Seat{}
		for i := range 1 + r.Intn(12) {
			for epoch := range 1 + r.Intn(6) { // of one user no two have one epoch
				s := api.Seat{User: "u" + strconv.Itoa(i), Shard: r.Intn(shards), Epoch: 2 + epoch}
				l = append(l, s)
				greatest[s.User] = s
			}
		}
		var first *place.Map
		for range 4 {
			m := fresh(t, shards)
			for _, i := range append(r.Perm(len(l)), r.Perm(len(l))[:len(l)/2]...) {
				if e := m.Learn(l[i]); e != api.OK && e != api.ErrStale {
					t.Fatal(l[i], e)
				}
			}
			if first == nil {
				first = m
			}
			if !alike(m, first) || len(m.Seats()) != len(greatest) {
				t.Fatal("the order plays a part")
			}
			for _, s := range greatest {
				seat(t, m, s.User, s.Shard, s.Epoch)
			}
		}
	}
}

// P4.4: a user's epoch never falls; and P6: whatever is learnt, maps that learnt the same tell the same.
func TestEpochNeverFalls(t *testing.T) {
	r := rand.New(rand.NewSource(44))
	m, twin, other := fresh(t, 4), fresh(t, 4), fresh(t, 4)
	names := slices.Clone(users)
	for i := range 70 {
		names = append(names, "u"+strconv.Itoa(i))
	}
	epochs := map[string]int{}
	for range 5000 {
		user := names[r.Intn(len(names))]
		s := api.Seat{User: user, Shard: r.Intn(6) - 1, Epoch: r.Intn(40) - 1}
		was, _ := m.Seat(user)
		e := m.Learn(s)
		is, _ := m.Seat(user)
		if is.Epoch < was.Epoch || is.Epoch < max(1, epochs[user]) || e != api.OK && is != was || e == api.OK && is != s {
			t.Fatalf("%.20q was %d, %d, learnt %d, %d (%d), is %d, %d", user, was.Shard, was.Epoch, s.Shard, s.Epoch, e, is.Shard, is.Epoch)
		}
		epochs[user] = is.Epoch
		other.Learn(api.Seat{User: user, Shard: 3, Epoch: 50})
		if twin.Learn(s) != e {
			t.Fatal("a map that learnt the same tells another thing")
		}
	}
	if len(m.Seats()) != 64 || !alike(m, twin) {
		t.Error("maps that learnt the same are not alike")
	}
}
