package query

import (
	"cmp"
	"slices"
	"strings"

	"pigeonhole/api"
	"pigeonhole/box"
	"pigeonhole/date"
	"pigeonhole/head"
	"pigeonhole/text"
)

// Eval is whether a question is true of a letter.
func Eval(l []api.Key, x api.Sight) (bool, api.Errno) {
	if e := Check(l); e != api.OK {
		return false, e
	}
	return asking(l, x.Most, x.Last).holds(x.N, look(x.Letter)), api.OK
}

// Pick is the numbers of the letters of which a question is true.
func Pick(l []api.Key, view []int, b api.Box) ([]int, api.Errno) {
	if e := Check(l); e != api.OK {
		return nil, e
	}
	if e := box.Check(b); e != api.OK {
		return nil, e
	}
	last := 0
	if len(view) > 0 {
		last = view[len(view)-1]
	}
	q := asking(l, len(view), last)
	letters := map[int]letter{}
	for _, x := range b.Letters {
		letters[x.UID] = look(x)
	}
	var picked []int
	for i, uid := range view {
		if x, there := letters[uid]; there && q.holds(i+1, x) {
			picked = append(picked, i+1)
		}
	}
	return picked, api.OK
}

// question is a question, and what is known of its keys whichever letter it is asked of.
type question struct {
	keys  []api.Key
	known []known
}

// known is the numbers of a key's set, its text in small letters, its day's number.
type known struct {
	ranges [][2]int
	small  string
	day    int
}

// letter is a letter of which something is asked. All of it is in small letters, as no key, and no date, tells great ones from them.
type letter struct {
	api.Letter
	fields      []api.Field
	all, behind string // all of it, and what stands behind its head
	dated       bool
	day         int
}

// asking is a question that is right, where so many letters are, of which the last one has this UID.
func asking(l []api.Key, most, last int) question {
	q := question{keys: l}
	for _, k := range l {
		star := most
		if k.Op == api.KeyUIDs {
			star = last
		}
		var x known
		// What is no set, or no day, has no numbers; nor has a set with a * that is 0.
		x.ranges, _, _ = box.Set(k.Set, min(max(star, 0), api.MaxNumber))
		x.day, _ = date.Days(k.Day)
		x.small = text.Lower(k.Text)
		q.known = append(q.known, x)
	}
	return q
}

// look is a letter as it is asked.
func look(x api.Letter) letter {
	s := letter{Letter: x, all: text.Lower(string(x.Bytes))}
	fields, body, e := head.Split([]byte(s.all))
	if e != api.OK {
		body = 0 // what Split tells is the fault's place
	}
	s.fields, s.behind = fields, s.all[body:]
	written, _ := head.Get(fields, "Date")
	moment, _, e := date.Parse(written) // nor is nothing a moment
	if e != api.OK {
		return s
	}
	day, _ := date.Here(moment)
	s.day, _ = date.Days(day)
	s.dated = true
	return s
}

// holds: is a question true of the letter of a number?
func (q question) holds(n int, x letter) bool {
	return reckon(q.keys, func(place int, taken []bool) bool {
		switch q.keys[place].Op {
		case api.KeyNot:
			return !taken[0]
		case api.KeyAnd:
			return taken[0] && taken[1]
		case api.KeyOr:
			return taken[0] || taken[1]
		}
		return x.fits(n, q.keys[place], q.known[place])
	})
}

// fits: is a leaf true of a letter, whose number this is?
func (x letter) fits(n int, k api.Key, about known) bool {
	switch k.Op {
	case api.KeyHas:
		return x.Flags&k.Flags != 0
	case api.KeyLacks:
		return x.Flags&k.Flags == 0
	case api.KeyLarger:
		return len(x.Bytes) > k.N
	case api.KeySmaller:
		return len(x.Bytes) < k.N
	case api.KeyNumbers:
		return box.In(about.ranges, n)
	case api.KeyUIDs:
		return box.In(about.ranges, x.UID)
	case api.KeyBefore, api.KeyOn, api.KeySince:
		return x.dated && x.written(k.Op, about.day)
	case api.KeyField:
		has := func(value string) bool { return strings.Contains(value, about.small) }
		return slices.ContainsFunc(head.All(x.fields, k.Name), has)
	case api.KeyBody:
		return strings.Contains(x.behind, about.small)
	case api.KeyText:
		return strings.Contains(x.all, about.small)
	}
	return true
}

// written: was a letter that has a day written as a key asks, by the number of the key's day?
func (x letter) written(op api.KeyOp, day int) bool {
	order := cmp.Compare(x.day, day)
	switch op {
	case api.KeyBefore:
		return order < 0
	case api.KeySince:
		return order >= 0
	}
	return order == 0
}
