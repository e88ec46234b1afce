package deed

import (
	"pigeonhole/api"
	"pigeonhole/box"
)

// CheckUser is what is wrong with a user.
func CheckUser(u api.User) api.Errno {
	switch {
	case !RightUser(u.Name):
		return api.ErrForm
	case u.Valid < 1 || u.Valid > api.MaxNumber:
		return api.ErrArg
	case len(u.Boxes) == 0 || len(u.Boxes) > api.MaxBoxes:
		return api.ErrFull
	}
	ahead, found, letters, size := "", false, 0, 0
	for _, b := range u.Boxes {
		if e := checkBox(b, ahead, u.Valid); e != api.OK {
			return e
		}
		ahead = b.Name
		found = found || b.Name == inbox
		letters += len(b.Letters)
		size += box.Size(b)
	}
	switch {
	case !found:
		return api.ErrForm
	case letters > api.MaxMail || size > api.MaxQuota:
		return api.ErrFull
	}
	return api.OK
}

// PutUser is a user's bytes.
func PutUser(u api.User) ([]byte, api.Errno) {
	if e := CheckUser(u); e != api.OK {
		return nil, e
	}
	b := putText(nil, u.Name)
	b = putNumber(b, 4, u.Valid)
	b = putNumber(b, 1, len(u.Boxes))
	for _, x := range u.Boxes {
		b = putBox(b, x)
	}
	return b, api.OK
}

// TakeUser is the user of bytes.
func TakeUser(b []byte) (api.User, api.Errno) {
	var u api.User
	e := read(b, func(r *reader) {
		u.Name = r.text()
		u.Valid = r.number(4)
		for range r.number(1) {
			u.Boxes = append(u.Boxes, r.box())
		}
	})
	if e == api.OK {
		e = CheckUser(u)
	}
	if e != api.OK {
		return api.User{}, e
	}
	return u, api.OK
}

// checkBox is what is wrong with a box of a user, behind one of the name ahead.
func checkBox(b api.Box, ahead string, valid int) api.Errno {
	if !RightBox(b.Name) || b.Name <= ahead {
		return api.ErrForm
	}
	if e := box.Check(b); e != api.OK {
		return e
	}
	if b.Valid > valid {
		return api.ErrArg
	}
	return api.OK
}

// putBox lays a box's bytes behind others.
func putBox(b []byte, x api.Box) []byte {
	b = putText(b, x.Name)
	b = putNumber(b, 4, x.Valid)
	b = putNumber(b, 4, x.Next)
	b = putNumber(b, 1, len(x.Letters))
	for _, l := range x.Letters {
		b = putNumber(b, 4, l.UID)
		b = putNumber(b, 1, int(l.Flags))
		b = putBody(b, l.Bytes)
	}
	return b
}

// box reads a box.
func (r *reader) box() api.Box {
	var b api.Box
	b.Name = r.text()
	b.Valid = r.number(4)
	b.Next = r.number(4)
	for range r.number(1) {
		b.Letters = append(b.Letters, r.letter())
	}
	return b
}

// letter reads a letter.
func (r *reader) letter() api.Letter {
	var l api.Letter
	l.UID = r.number(4)
	l.Flags = uint8(r.number(1))
	l.Bytes = r.body()
	return l
}
