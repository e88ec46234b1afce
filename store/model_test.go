package store_test

import (
	"cmp"
	"math/rand"
	"slices"
	"strings"
	"testing"

	"pigeonhole/api"
	"pigeonhole/deed"
	"pigeonhole/store"
)

// model is what a store is to be, reckoned in another way: users with boxes by their names.
type model map[string]*folk

type folk struct {
	valid int
	boxes map[string]*heap
}

type heap struct {
	valid, next int
	letters     map[int]api.Letter
}

// fork is another model that is alike.
func (m model) fork() model {
	other := model{}
	for name, u := range m {
		v := &folk{u.valid, map[string]*heap{}}
		for name, b := range u.boxes {
			c := &heap{b.valid, b.next, map[int]api.Letter{}}
			for uid, l := range b.letters {
				c.letters[uid] = l
			}
			v.boxes[name] = c
		}
		other[name] = v
	}
	return other
}

// all is what a store is to tell of its users.
func (m model) all() []api.User {
	var l []api.User
	for name, u := range m {
		v := api.User{Name: name, Valid: u.valid}
		for name, b := range u.boxes {
			c := api.Box{Name: name, Valid: b.valid, Next: b.next}
			for _, l := range b.letters {
				c.Letters = append(c.Letters, l)
			}
			slices.SortFunc(c.Letters, func(a, b api.Letter) int { return cmp.Compare(a.UID, b.UID) })
			v.Boxes = append(v.Boxes, c)
		}
		slices.SortFunc(v.Boxes, func(a, b api.Box) int { return strings.Compare(a.Name, b.Name) })
		l = append(l, v)
	}
	slices.SortFunc(l, func(a, b api.User) int { return strings.Compare(a.Name, b.Name) })
	return l
}

// has is how many letters, and bytes, a user has.
func (u *folk) has() (int, int) {
	n, size := 0, 0
	for _, b := range u.boxes {
		for _, l := range b.letters {
			n++
			size += len(l.Bytes)
		}
	}
	return n, size
}

// enter has a user be there.
func (m model) enter(u api.User) {
	f := &folk{u.Valid, map[string]*heap{}}
	for _, b := range u.Boxes {
		c := &heap{b.Valid, b.Next, map[int]api.Letter{}}
		for _, l := range b.Letters {
			c.letters[l.UID] = l
		}
		f.boxes[b.Name] = c
	}
	m[u.Name] = f
}

// do does a deed that is right.
func (m model) do(d api.Deed) (int, api.Errno) {
	u := m[d.User]
	if d.Do == api.Open || d.Do == api.Enter {
		if u != nil {
			return 0, api.ErrKnown
		}
		if len(m) == 16 {
			return 0, api.ErrFull
		}
		if d.Do == api.Open {
			m[d.User] = &folk{1, map[string]*heap{"INBOX": {1, 1, map[int]api.Letter{}}}}
			return 1, api.OK
		}
		v, _ := deed.TakeUser(d.Bytes)
		m.enter(v)
		return 0, api.OK
	}
	if u == nil {
		return 0, api.ErrGone
	}
	switch d.Do {
	case api.Leave:
		delete(m, d.User)
		return 0, api.OK
	case api.Make:
		return u.make(d.Box)
	}
	b := u.boxes[d.Box]
	if b == nil {
		return 0, api.ErrGone
	}
	if d.Do == api.Drop || d.Do == api.Rename {
		if d.Box == "INBOX" {
			return 0, api.ErrState
		}
		if d.Do == api.Rename {
			return u.rename(d.Box, d.To)
		}
		delete(u.boxes, d.Box)
		return 0, api.OK
	}
	if d.Do == api.Put {
		n, size := u.has()
		if len(b.letters) == 32 || b.next == top || n == 40 || size+len(d.Bytes) > 1200 {
			return 0, api.ErrFull
		}
		b.letters[b.next] = api.Letter{UID: b.next, Flags: d.Flags, Bytes: d.Bytes}
		b.next++
		return b.next - 1, api.OK
	}
	l, ok := b.letters[d.UID]
	if !ok {
		return 0, api.ErrGone
	}
	if delete(b.letters, d.UID); d.Do == api.Turn {
		l.Flags = []uint8{d.Flags, l.Flags | d.Flags, l.Flags &^ d.Flags}[d.How]
		b.letters[d.UID] = l
	}
	return 0, api.OK
}

// make gives a user a box more.
func (u *folk) make(name string) (int, api.Errno) {
	if u.boxes[name] != nil {
		return 0, api.ErrKnown
	}
	if len(u.boxes) == 6 || u.valid == top {
		return 0, api.ErrFull
	}
	u.valid++
	u.boxes[name] = &heap{u.valid, 1, map[int]api.Letter{}}
	return u.valid, api.OK
}

// rename gives boxes other names.
func (u *folk) rename(from, to string) (int, api.Errno) {
	moved, stay := map[string]*heap{}, map[string]*heap{}
	for name, b := range u.boxes {
		if strings.HasPrefix(name+"/", from+"/") {
			moved[to+name[len(from):]] = b
		} else {
			stay[name] = b
		}
	}
	for name := range moved {
		if len(name) > 24 {
			return 0, api.ErrLimit
		}
	}
	for name, b := range moved {
		if stay[name] != nil {
			return 0, api.ErrKnown
		}
		stay[name] = b
	}
	u.boxes = stay
	return len(moved), api.OK
}

// names are of boxes that lie in one another, and of one that is long.
var names = []string{"INBOX", "a", "a/b", "x/abcdefghijklmnopqrstu", "a/b/c", "b", "b/b", "c", "INBOX/a"}

// some is a deed of any kind.
func some(r *rand.Rand, left []api.User) api.Deed {
	user := string(rune('a' + r.Intn(18)))
	if r.Intn(8) > 0 {
		user = string(rune('a' + r.Intn(2)))
	}
	name := func() string { return names[r.Intn(1+r.Intn(len(names)))] }
	switch k := r.Intn(24); {
	case k == 0 && r.Intn(3) == 0:
		return leave(user)
	case k == 1 && len(left) > 0:
		u := left[r.Intn(len(left))]
		b, _ := deed.PutUser(u)
		return api.Deed{Do: api.Enter, User: u.Name, Epoch: 1, Bytes: b}
	case k < 4:
		return open(user)
	case k < 8:
		return add(user, name())
	case k < 9:
		return drop(user, name())
	case k < 13:
		return rename(user, name(), names[r.Intn(len(names))])
	case k < 17:
		d := put(user, name(), long(r.Intn(1+r.Intn(500))))
		d.Flags = uint8(r.Intn(32))
		return d
	case k < 21:
		return turn(user, name(), 1+r.Intn(6), r.Intn(3), uint8(r.Intn(32)))
	}
	return cut(user, name(), 1+r.Intn(6))
}

// given is a UID that was given in a box of a name, of a Valid.
type given struct {
	user, box  string
	valid, uid int
}

// P10.2, P10.4, P10.5, P10.6 (M3), P10.7 (M4): a store against a model of it.
func TestModel(t *testing.T) {
	r := rand.New(rand.NewSource(102))
	oks, errors := [10]int{}, [15]int{}
	for range 60 {
		s, m := store.New(), model{}
		var left []api.User
		ever := map[given]bool{}
		for range 600 {
			var l []api.Deed
			for range 1 + r.Intn(1+r.Intn(1+r.Intn(6))) {
				l = append(l, some(r, left))
			}
			was := all(t, s)
			next, numbers, at, want := m.fork(), []int(nil), 0, api.OK
			for i, d := range l {
				n, e := next.do(d)
				if errors[e]++; e != api.OK {
					numbers, at, want = nil, i, e
					break
				}
				numbers = append(numbers, n)
			}
			if want != api.OK {
				refused(t, s, at, want, l...)
				continue
			}
			done(t, s, numbers, l...)
			m = next
			stays(t, s, m.all())
			for i, d := range l {
				oks[d.Do]++
				if at := slices.IndexFunc(was, func(u api.User) bool { return u.Name == d.User }); d.Do == api.Leave && at >= 0 {
					left = append(left, was[at])
				}
				if d.Do == api.Leave || d.Do == api.Enter || d.Do == api.Open {
					forget(ever, d.User) // who comes anew may have what it had elsewhere
				}
				if u := m[d.User]; d.Do == api.Put && len(l) == 1 {
					g := given{d.User, d.Box, u.boxes[d.Box].valid, numbers[i]}
					if ever[g] {
						t.Fatalf("%v is given twice", g)
					}
					ever[g] = true
				}
			}
			if t.Failed() {
				t.Fatalf("of %v", l)
			}
		}
	}
	if slices.Min(oks[1:]) < 20 || min(errors[api.ErrLimit], errors[api.ErrFull], errors[api.ErrGone], errors[api.ErrKnown], errors[api.ErrState]) < 20 {
		t.Errorf("too little was tried: %v, %v", oks, errors)
	}
}

// forget takes a user out of what was given.
func forget(ever map[given]bool, user string) {
	for g := range ever {
		if g.user == user {
			delete(ever, g)
		}
	}
}

// P10.6 (M3): of one user, over all that becomes of its boxes, no two letters in boxes of one name and one Valid have one UID; a box that is made has a greater Valid than all ahead.
func TestNoneTwice(t *testing.T) {
	r := rand.New(rand.NewSource(106))
	for range 40 {
		s := store.New()
		done(t, s, []int{1}, open("u"))
		ever, valid := map[given]bool{}, 1
		for range 200 {
			name := names[r.Intn(len(names))]
			d := add("u", name)
			switch r.Intn(6) {
			case 0:
				d = drop("u", name)
			case 1:
				d = rename("u", name, names[r.Intn(len(names))])
			case 2, 3:
				d = put("u", name, "")
			case 4:
				d = cut("u", name, 1+r.Intn(8))
			}
			n, _, e := s.Do([]api.Deed{d})
			switch {
			case e == api.OK && d.Do == api.Make:
				if n[0] <= valid {
					t.Fatalf("the Valid %d behind %d", n[0], valid)
				}
				valid = n[0]
			case e == api.OK && d.Do == api.Put:
				b, _ := s.Box("u", name)
				g := given{"u", name, b.Valid, n[0]}
				if ever[g] {
					t.Fatalf("%v is given twice", g)
				}
				ever[g] = true
			}
			all(t, s)
		}
		if len(ever) < 10 {
			t.Error("too little was tried")
		}
	}
}
