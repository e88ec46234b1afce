package query

import (
	"strconv"
	"strings"

	"pigeonhole/api"
	"pigeonhole/date"
	"pigeonhole/text"
)

// daySecs is how many seconds a day has.
const daySecs = 24 * 60 * 60

// Print is a question's text.
func Print(l []api.Key) (string, api.Errno) {
	if e := Check(l); e != api.OK {
		return "", e
	}
	all := reckon(l, func(place int, taken []phrase) phrase { return say(l[place], taken) })
	return all.whole(), api.OK
}

// phrase is the text of a key, with those that it takes: of a KeyAnd without its ( and ).
type phrase struct {
	said string
	and  bool
}

// whole is a phrase as it stands by itself.
func (p phrase) whole() string {
	if p.and {
		return "(" + p.said + ")"
	}
	return p.said
}

// say is a key's phrase.
func say(k api.Key, taken []phrase) phrase {
	if k.Op == api.KeyAnd {
		return phrase{taken[0].said + blank + taken[1].whole(), true}
	}
	parts := leaf(k)
	for _, p := range taken {
		parts = append(parts, p.whole())
	}
	return phrase{said: strings.Join(parts, blank)}
}

// leaf is a key's word, and what goes with it.
func leaf(k api.Key) []string {
	name := strings.ToUpper(word(k.Op))
	switch k.Op {
	case api.KeyHas:
		return []string{strings.ToUpper(flagWord(k.Flags))}
	case api.KeyLacks:
		return []string{strings.ToUpper(without + flagWord(k.Flags))}
	case api.KeyLarger, api.KeySmaller:
		return []string{name, strconv.Itoa(k.N)}
	case api.KeyNumbers:
		return []string{k.Set}
	case api.KeyUIDs:
		return []string{name, k.Set}
	case api.KeyBefore, api.KeyOn, api.KeySince:
		return []string{name, dayText(k.Day)}
	case api.KeyField:
		if ownWord(k.Name) {
			return []string{strings.ToUpper(k.Name), quoted(k.Text)}
		}
		return []string{name, k.Name, quoted(k.Text)}
	case api.KeyBody, api.KeyText:
		return []string{name, quoted(k.Text)}
	}
	return []string{name}
}

// dayText is the text of a day that is right.
func dayText(d api.Day) string {
	days, _ := date.Days(d)
	// The day begins a moment's text, in which a blank stands ahead of one below 10.
	moment, _ := date.PrintShort(api.Time{Sec: days * daySecs})
	day, _ := text.Word(strings.TrimPrefix(moment, blank))
	return day
}

// quoted is a text that can be quoted, between signs.
func quoted(s string) string {
	q, _, _ := text.Quote(s)
	return q
}
