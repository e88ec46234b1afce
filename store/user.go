package store

import (
	"slices"
	"strings"

	"pigeonhole/api"
	"pigeonhole/box"
	"pigeonhole/deed"
)

// inbox is the box that each user has.
const inbox = "INBOX"

// newcomer is a user as it is at first.
func newcomer(name string) api.User {
	return api.User{Name: name, Valid: 1, Boxes: []api.Box{{Name: inbox, Valid: 1, Next: 1}}}
}

// change does a deed to the boxes of a user who is there, and tells its number.
func change(u api.User, d api.Deed) (api.User, int, api.Errno) {
	u.Boxes = slices.Clone(u.Boxes) // the user ahead of the deed is to stay as it was
	switch d.Do {
	case api.Make:
		return add(u, d.Box)
	case api.Drop:
		u.Boxes = slices.DeleteFunc(u.Boxes, named(d.Box))
		return u, 0, api.OK
	case api.Rename:
		return rename(u, d.Box, d.To)
	}
	at := place(u, d.Box)
	b, number, e := changeBox(u.Boxes[at], d)
	if e != api.OK {
		return api.User{}, 0, e
	}
	u.Boxes[at] = b
	// The user was right ahead of this, so that no more can be wrong now than that it has too much.
	if e := deed.CheckUser(u); e != api.OK {
		return api.User{}, 0, e
	}
	return u, number, api.OK
}

// changeBox does a deed to the letters of a box, and tells its number.
func changeBox(b api.Box, d api.Deed) (api.Box, int, api.Errno) {
	var e api.Errno
	switch d.Do {
	case api.Put:
		return box.Add(b, d.Flags, d.Bytes)
	case api.Turn:
		b, e = box.Flag(b, d.UID, d.How, d.Flags)
	case api.Cut:
		b, e = box.Cut(b, d.UID)
	}
	return b, 0, e
}

// add gives a user a box more, and tells its Valid.
func add(u api.User, name string) (api.User, int, api.Errno) {
	if len(u.Boxes) >= api.MaxBoxes || u.Valid >= api.MaxNumber {
		return api.User{}, 0, api.ErrFull
	}
	u.Valid++
	u.Boxes = append(u.Boxes, api.Box{Name: name, Valid: u.Valid, Next: 1})
	slices.SortFunc(u.Boxes, byName)
	return u, u.Valid, api.OK
}

// rename gives a box, and all that are under it, another name, and tells how many these are.
func rename(u api.User, from, to string) (api.User, int, api.Errno) {
	count := 0
	for i := range u.Boxes {
		b := &u.Boxes[i]
		rest, begins := strings.CutPrefix(b.Name, from)
		if !begins || rest != "" && rest[0] != '/' {
			continue
		}
		b.Name = to + rest
		if !deed.RightBox(b.Name) {
			return api.User{}, 0, api.ErrLimit
		}
		count++
	}
	slices.SortFunc(u.Boxes, byName)
	for i, b := range u.Boxes[1:] {
		if b.Name == u.Boxes[i].Name {
			return api.User{}, 0, api.ErrKnown
		}
	}
	return u, count, api.OK
}

// place is where a user has a box of a name; -1: nowhere.
func place(u api.User, name string) int { return slices.IndexFunc(u.Boxes, named(name)) }

// named asks whether a box has a name.
func named(name string) func(api.Box) bool {
	return func(b api.Box) bool { return b.Name == name }
}

// byName is the order of boxes.
func byName(a, b api.Box) int { return strings.Compare(a.Name, b.Name) }

// copiedUser is a user that is alike, in memory of its own.
func copiedUser(u api.User) api.User {
	u.Boxes = slices.Clone(u.Boxes)
	for i, b := range u.Boxes {
		u.Boxes[i] = copiedBox(b)
	}
	return u
}

// copiedBox is a box that is alike, in memory of its own; empty lists are nil in it, however they became empty.
func copiedBox(b api.Box) api.Box {
	b.Letters = append([]api.Letter(nil), b.Letters...)
	for i, l := range b.Letters {
		b.Letters[i].Bytes = append([]byte(nil), l.Bytes...)
	}
	return b
}
