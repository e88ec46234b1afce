package query

import (
	"strings"

	"pigeonhole/api"
	"pigeonhole/date"
	"pigeonhole/text"
)

const blank = " "

// Parse is a text's question.
func Parse(s string) ([]api.Key, api.Errno) {
	r := &reader{left: s}
	if e := r.all(); e != api.OK {
		return nil, e
	}
	if e := Check(r.keys); e != api.OK {
		return nil, e
	}
	return r.keys, api.OK
}

// reader takes keys off the left of a text. A fault makes it panic with its error: so whoever reads by it need not ask.
type reader struct {
	left string
	keys []api.Key
}

// all takes all of the text, and tells the fault that is met.
func (r *reader) all() (e api.Errno) {
	defer func() {
		met := recover()
		if met == nil {
			return
		}
		fault, ok := met.(api.Errno)
		if !ok {
			panic(met) // no fault of the text
		}
		e = fault
	}()
	r.question(0)
	demand(r.left == "")
	return api.OK
}

// demand goes no further, unless the text is as it is to be.
func demand(ok bool) {
	if !ok {
		panic(api.ErrForm)
	}
}

// question takes keys that are all true.
func (r *reader) question(deep int) {
	r.key(deep)
	for r.next(blank) {
		r.key(deep)
		r.lay(api.Key{Op: api.KeyAnd})
	}
}

// key takes a key, and those that it takes.
func (r *reader) key(deep int) {
	if deep > api.MaxKeys {
		panic(api.ErrLimit)
	}
	if r.next("(") {
		r.question(deep + 1)
		r.sign(")")
		return
	}
	k := keyOf(text.Lower(r.word()))
	demand(k.Op != api.NoKey)
	switch k.Op {
	case api.KeyOr:
		r.sign(blank)
		r.key(deep + 1)
		fallthrough
	case api.KeyNot:
		r.sign(blank)
		r.key(deep + 1)
	default:
		r.rest(&k)
	}
	r.lay(k)
}

// rest takes what stands behind the word of a leaf.
func (r *reader) rest(k *api.Key) {
	switch k.Op {
	case api.KeyLarger, api.KeySmaller:
		n, _, e := text.Number(r.behind())
		demand(e == api.OK)
		k.N = n
	case api.KeyUIDs:
		k.Set = r.behind()
		demand(isSet(k.Set))
	case api.KeyBefore, api.KeyOn, api.KeySince:
		d, _, e := date.ParseDay(r.behind())
		demand(e == api.OK)
		k.Day = d
	case api.KeyField:
		if k.Name == "" { // else its word was its name
			k.Name = r.behind()
			demand(text.Atom(k.Name))
		}
		fallthrough
	case api.KeyBody, api.KeyText:
		k.Text = r.said()
	}
}

// said takes a blank and a string.
func (r *reader) said() string {
	r.sign(blank)
	if !strings.HasPrefix(r.left, `"`) {
		s := r.word()
		demand(text.Atom(s))
		return s
	}
	s, size, e := text.Unquote(r.left)
	demand(e == api.OK)
	r.left = r.left[size:]
	return s
}

// behind takes a blank and a word.
func (r *reader) behind() string {
	r.sign(blank)
	return r.word()
}

// word takes all up to a blank, a ), or the end.
func (r *reader) word() string {
	size := strings.IndexAny(r.left, " )")
	if size < 0 {
		size = len(r.left)
	}
	s := r.left[:size]
	r.left = r.left[size:]
	return s
}

// next takes a sign, if it is there.
func (r *reader) next(sign string) bool {
	rest, there := strings.CutPrefix(r.left, sign)
	r.left = rest
	return there
}

// sign takes a sign.
func (r *reader) sign(s string) { demand(r.next(s)) }

// lay lays a key behind the others. With one more than there may be they are too many, whatever stands behind: so no more are kept.
func (r *reader) lay(k api.Key) {
	if len(r.keys) <= api.MaxKeys {
		r.keys = append(r.keys, k)
	}
}
