package query

import (
	"strings"

	"pigeonhole/api"
)

// without stands ahead of a flag's word, where a letter is not to have it.
const without = "un"

// word is a key's word, in small letters; none, if it has none of its own.
func word(op api.KeyOp) string {
	switch op {
	case api.KeyAll:
		return "all"
	case api.KeyLarger:
		return "larger"
	case api.KeySmaller:
		return "smaller"
	case api.KeyUIDs:
		return "uid"
	case api.KeyBefore:
		return "sentbefore"
	case api.KeyOn:
		return "senton"
	case api.KeySince:
		return "sentsince"
	case api.KeyField:
		return "header"
	case api.KeyBody:
		return "body"
	case api.KeyText:
		return "text"
	case api.KeyNot:
		return "not"
	case api.KeyOr:
		return "or"
	}
	return ""
}

// flagWord is a flag's word, in small letters; none, if it is not one flag.
func flagWord(flag uint8) string {
	switch flag {
	case api.Seen:
		return "seen"
	case api.Answered:
		return "answered"
	case api.Flagged:
		return "flagged"
	case api.Deleted:
		return "deleted"
	case api.Draft:
		return "draft"
	}
	return ""
}

// ownWord: is a field's name a word of its own?
func ownWord(name string) bool {
	switch name {
	case "from", "to", "cc", "subject":
		return true
	}
	return false
}

// keyOf is the key of a word in small letters, with what the word itself tells of it; of the Op NoKey, if it is none.
func keyOf(s string) api.Key {
	if ownWord(s) {
		return api.Key{Op: api.KeyField, Name: s}
	}
	for op := api.KeyAll; op <= api.KeyAnd; op++ {
		if s != "" && s == word(op) {
			return api.Key{Op: op}
		}
	}
	flag, lacks := strings.CutPrefix(s, without)
	for f := uint8(api.Seen); f <= api.Draft; f *= 2 {
		switch {
		case flag != flagWord(f):
		case lacks:
			return api.Key{Op: api.KeyLacks, Flags: f}
		default:
			return api.Key{Op: api.KeyHas, Flags: f}
		}
	}
	if isSet(s) {
		return api.Key{Op: api.KeyNumbers, Set: s}
	}
	return api.Key{}
}
