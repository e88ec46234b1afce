package deed_test

import (
	"bytes"
	"math"
	"math/rand"
	"reflect"
	"strings"
	"testing"

	"pigeonhole/api"
	"pigeonhole/deed"
)

// with is a user with an INBOX, and some more boxes ahead of it or behind.
func with(change func(*api.User)) api.User {
	u := api.User{Name: "u", Valid: 9, Boxes: []api.Box{{Name: "A", Valid: 2, Next: 5}, inbox(), {Name: "b", Valid: 9, Next: 5}}}
	change(&u)
	return u
}

// laid: do a user's numbers fit in its bytes?
func laid(u api.User) bool {
	fits := u.Valid >= 0 && u.Valid <= top && len(u.Boxes) < 256
	for _, b := range u.Boxes {
		fits = fits && b.Valid >= 0 && b.Valid <= top && b.Next >= 0 && b.Next <= top
	}
	return fits
}

// P9.3, CheckUser: what is wrong, each alone and in the order of the errors.
func TestCheckUser(t *testing.T) {
	for i, c := range []struct {
		want   api.Errno
		change func(*api.User)
	}{
		{api.OK, func(u *api.User) {}},
		{api.OK, func(u *api.User) { u.Name = long(24) }},
		{api.OK, func(u *api.User) { u.Valid = top }},
		{api.OK, func(u *api.User) { u.Boxes = u.Boxes[1:] }},
		{api.OK, func(u *api.User) { u.Boxes = u.Boxes[1:2] }},
		{api.OK, func(u *api.User) { u.Boxes[0].Valid = 9 }}, // two may have one Valid
		{api.OK, func(u *api.User) { u.Boxes[2].Name = "INBOX/x" }},
		{api.OK, func(u *api.User) { u.Boxes[2].Name = "\U0010ffff" }},
		{api.OK, func(u *api.User) { *u = largest() }},
		{api.ErrForm, func(u *api.User) { *u = api.User{} }},
		{api.ErrForm, func(u *api.User) { u.Name = "" }},
		{api.ErrForm, func(u *api.User) { u.Name = "U" }},
		{api.ErrForm, func(u *api.User) { u.Name = long(25) }},
		{api.ErrForm, func(u *api.User) { u.Name, u.Valid, u.Boxes = "U", 0, nil }},
		{api.ErrArg, func(u *api.User) { u.Valid = 0 }},
		{api.ErrArg, func(u *api.User) { u.Valid = -1 }},
		{api.ErrArg, func(u *api.User) { u.Valid = top + 1 }},
		{api.ErrArg, func(u *api.User) { u.Valid = math.MaxInt }},
		{api.ErrArg, func(u *api.User) { u.Valid = math.MinInt }},
		{api.ErrArg, func(u *api.User) { u.Valid, u.Boxes = 0, nil }},
		{api.ErrFull, func(u *api.User) { u.Boxes = nil }},
		{api.ErrFull, func(u *api.User) { u.Boxes = []api.Box{} }},
		{api.ErrFull, func(u *api.User) { u.Boxes = make([]api.Box, 7) }},
		{api.ErrFull, func(u *api.User) { u.Boxes = make([]api.Box, 1<<12) }},
		{api.ErrForm, func(u *api.User) { u.Boxes[0].Name = "" }},
		{api.ErrForm, func(u *api.User) { u.Boxes[0].Name = "\x00" }},
		{api.ErrForm, func(u *api.User) { u.Boxes[2].Name = "inbox" }},
		{api.ErrForm, func(u *api.User) { u.Boxes[2].Name = long(25) }},
		{api.ErrForm, func(u *api.User) { u.Boxes[0].Name = "INBOX" }}, // one name twice
		{api.ErrForm, func(u *api.User) { u.Boxes[0].Name = "INBOX/" }},
		{api.ErrForm, func(u *api.User) { u.Boxes[2].Name = "A" }},
		{api.ErrForm, func(u *api.User) { u.Boxes[0].Name, u.Boxes[2].Name = "b", "ä" }},
		{api.ErrArg, func(u *api.User) { u.Boxes[0].Valid = 0 }},
		{api.ErrArg, func(u *api.User) { u.Boxes[1].Next = top + 1 }},
		{api.ErrFull, func(u *api.User) { u.Boxes[0].Next, u.Boxes[0].Letters = 40, letters(33, 1) }},
		{api.ErrForm, func(u *api.User) { u.Boxes[0].Next, u.Boxes[0].Letters = 3, letters(3, 1) }},
		{api.ErrArg, func(u *api.User) { u.Boxes[0].Letters = []api.Letter{{UID: 1, Flags: 32}} }},
		{api.ErrLimit, func(u *api.User) { u.Boxes[0].Letters = letters(1, 601) }},
		{api.ErrArg, func(u *api.User) { u.Boxes[2].Valid = 10 }},
		{api.ErrArg, func(u *api.User) { u.Valid = 8 }},
		{api.ErrArg, func(u *api.User) { u.Boxes[1].Valid = top }},
		{api.ErrForm, func(u *api.User) { u.Boxes[1].Name = "INBOX2" }},
		{api.ErrForm, func(u *api.User) { u.Boxes = u.Boxes[:1] }},
		{api.ErrForm, func(u *api.User) { u.Boxes = u.Boxes[2:] }},
		// Of one box its name comes first, then box.Check, then its Valid; one box is ahead of the next one.
		{api.ErrForm, func(u *api.User) { u.Boxes[0] = api.Box{Valid: 99, Letters: letters(33, 601)} }},
		{api.ErrFull, func(u *api.User) { u.Boxes[0].Valid, u.Boxes[0].Letters = 99, letters(33, 601) }},
		{api.ErrLimit, func(u *api.User) { u.Boxes[0].Valid, u.Boxes[0].Letters = 99, letters(1, 601) }},
		{api.ErrArg, func(u *api.User) { u.Boxes[0].Valid, u.Boxes[1].Name = 99, "inbox" }},
		{api.ErrFull, func(u *api.User) { u.Boxes[0].Next, u.Boxes[0].Letters, u.Boxes[1].Valid = 99, letters(33, 0), 99 }},
		// The boxes come ahead of the INBOX, that ahead of how much it is.
		{api.ErrArg, func(u *api.User) { u.Boxes[1].Name, u.Boxes[2].Valid = "INBOX2", 10 }},
		{api.ErrForm, func(u *api.User) { u.Boxes[1].Name, u.Boxes[1].Letters = "INBOX2", letters(3, 600) }},
		{api.ErrLimit, func(u *api.User) { u.Boxes[1].Letters, u.Boxes[2].Letters = letters(3, 600), letters(1, 601) }},
		// How much it is.
		{api.OK, func(u *api.User) { u.Boxes[1].Letters = letters(2, 600) }},
		{api.ErrFull, func(u *api.User) { u.Boxes[1].Letters = letters(3, 401) }},
		{api.OK, func(u *api.User) { u.Boxes[0].Letters, u.Boxes[1].Letters = letters(1, 600), letters(1, 600) }},
		{api.ErrFull, func(u *api.User) { u.Boxes[0].Letters, u.Boxes[1].Letters = letters(1, 600), letters(2, 301) }},
		{api.OK, func(u *api.User) {
			u.Boxes[1].Letters, u.Boxes[2].Letters, u.Boxes[2].Next = letters(32, 0), letters(8, 0), 9
		}},
		{api.ErrFull, func(u *api.User) {
			u.Boxes[1].Letters, u.Boxes[2].Letters, u.Boxes[2].Next = letters(32, 0), letters(9, 0), 10
		}},
	} {
		u := with(c.change)
		was := copiedUser(u)
		if e := deed.CheckUser(u); e != c.want {
			t.Errorf("%d: CheckUser = %d, want %d", i, e, c.want)
		}
		b, e := deed.PutUser(u)
		if e != c.want || e != api.OK && len(b) != 0 {
			t.Errorf("%d: PutUser = %d bytes, %d, want %d", i, len(b), e, c.want)
		}
		if !reflect.DeepEqual(u, was) {
			t.Errorf("%d: what was handed in changed", i)
		}
		if e == api.OK && string(b) != userBytes(u) {
			t.Errorf("%d: PutUser = %q, want %q", i, b, userBytes(u))
		}
		if !laid(u) {
			continue
		}
		got, e := deed.TakeUser([]byte(userBytes(u)))
		if e != c.want || e == api.OK && !sameUser(got, u) || e != api.OK && !reflect.DeepEqual(got, api.User{}) {
			t.Errorf("%d: TakeUser = %v, %d, want %d", i, got, e, c.want)
		}
	}
}

// P9.3, PutUser
func TestPutUser(t *testing.T) {
	if b, e := deed.PutUser(bob()); string(b) != bobBytes || e != api.OK {
		t.Errorf("PutUser = %q, %d, want %q", b, e, bobBytes)
	}
	u := api.User{Name: "u", Valid: 1, Boxes: []api.Box{{Name: "INBOX", Valid: 1, Next: 1}}}
	if b, e := deed.PutUser(u); string(b) != "\x01u\x00\x00\x00\x01\x01\x05INBOX\x00\x00\x00\x01\x00\x00\x00\x01\x00" || e != api.OK {
		t.Errorf("PutUser = %q, %d", b, e)
	}
}

// P9.3, P9.4 (M1): TakeUser, of each beginning, and of more.
func TestTakeUser(t *testing.T) {
	for _, u := range []api.User{bob(), largest(), with(func(*api.User) {})} {
		b, e := deed.PutUser(u)
		if e != api.OK {
			t.Fatalf("PutUser = %d", e)
		}
		if got, e := deed.TakeUser(b); e != api.OK || !sameUser(got, u) {
			t.Errorf("TakeUser of PutUser = %v, %d", got, e)
		}
		for n := range b {
			if got, e := deed.TakeUser(b[:n]); e != api.ErrShort || !reflect.DeepEqual(got, api.User{}) {
				t.Errorf("TakeUser of %d bytes = %v, %d", n, got, e)
			}
		}
		for _, more := range []string{"\x00", "x", string(b), strings.Repeat("\x00", 1<<16)} {
			if got, e := deed.TakeUser([]byte(string(b) + more)); e != api.ErrForm || !reflect.DeepEqual(got, api.User{}) {
				t.Errorf("TakeUser with more behind = %v, %d", got, e)
			}
		}
	}
	for b, want := range map[string]api.Errno{
		"":                                api.ErrShort,
		"\x00":                            api.ErrShort,
		"\x00\x00\x00\x00\x00\x00":        api.ErrForm,
		"\x00\x00\x00\x00\x00\x00x":       api.ErrForm,
		"\x01u\x00\x00\x00\x00\x00":       api.ErrArg,
		"\x01u\x00\x00\x00\x00\x00x":      api.ErrForm, // behind comes ahead of what is wrong with the user
		"\x01u\x00\x00\x00\x01\x00":       api.ErrFull,
		"\x01u\x00\x00\x00\x00\x01":       api.ErrShort,
		"\x01u\x00\x00\x00\x01\xff":       api.ErrShort,
		"\xff":                            api.ErrShort,
		"\xff" + strings.Repeat("u", 1e5): api.ErrShort, // a body that is said to be long
		"\x01u\x00\x00\x00\x01\x07" + strings.Repeat("\x00", 7*10): api.ErrFull,
	} {
		if got, e := deed.TakeUser([]byte(b)); e != want || !reflect.DeepEqual(got, api.User{}) {
			t.Errorf("TakeUser(%.40q) = %v, %d, want %d", b, got, e, want)
		}
	}
	if _, e := deed.TakeUser(nil); e != api.ErrShort {
		t.Errorf("TakeUser(nil) = %d", e)
	}
}

// P9.4 (M1): what TakeUser takes is what PutUser gives, of bytes of which some are other ones.
func TestTakeUserOfAnyBytes(t *testing.T) {
	r := rand.New(rand.NewSource(93))
	taken := 0
	for range 30000 {
		u := bob()
		if r.Intn(3) == 0 {
			u = largest()
		}
		b, _ := deed.PutUser(u)
		for range r.Intn(3) {
			b[r.Intn(len(b))] = byte(r.Intn(256) >> r.Intn(8))
		}
		was := bytes.Clone(b)
		got, e := deed.TakeUser(b)
		if !bytes.Equal(b, was) {
			t.Fatal("TakeUser changed what it was handed")
		}
		if e != api.OK {
			if !reflect.DeepEqual(got, api.User{}) {
				t.Fatalf("beside the error %d stands %v", e, got)
			}
			continue
		}
		taken++
		if back, e := deed.PutUser(got); e != api.OK || !bytes.Equal(back, b) || deed.CheckUser(got) != api.OK {
			t.Fatalf("PutUser of TakeUser(%q) = %q, %d", b, back, e)
		}
	}
	if taken < 5000 {
		t.Errorf("only %d are taken", taken)
	}
}

// P9.5: a user's bytes are few enough to be entered.
func TestUserFits(t *testing.T) {
	b, e := deed.PutUser(largest())
	if e != api.OK || len(b) != 1695 || len(b) > api.MaxDone-100 {
		t.Errorf("the greatest user has %d bytes, %d", len(b), e)
	}
	if _, e := deed.PutAll([]api.Deed{{Do: api.Enter, User: long(24), Epoch: top, Bytes: b}}); e != api.OK {
		t.Errorf("PutAll of its Enter = %d", e)
	}
	// Each thing that would make it more is refused.
	for i, change := range []func(*api.User){
		func(u *api.User) { u.Name += "x" },
		func(u *api.User) { u.Boxes[3].Name += "x" },
		func(u *api.User) { u.Boxes = append(u.Boxes, api.Box{Name: "z", Valid: 1, Next: 1}) },
		func(u *api.User) { u.Boxes[3].Letters = letters(1, 0) },
		func(u *api.User) { u.Boxes[0].Letters[7].Bytes = append(u.Boxes[0].Letters[7].Bytes, 'x') },
	} {
		u := copiedUser(largest())
		change(&u)
		if e := deed.CheckUser(u); e == api.OK {
			t.Errorf("%d: more of it is right", i)
		}
	}
}
