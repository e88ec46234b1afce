package view

import (
	"strconv"

	"pigeonhole/api"
	"pigeonhole/head"
	"pigeonhole/text"
)

// Envelope is a letter's envelope.
func Envelope(b []byte) string {
	fields, _, _ := head.Split(b) // none with an error
	from := people(fields, "From", nothing)
	return list([]string{
		value(fields, "Date"),
		value(fields, "Subject"),
		from,
		people(fields, "Sender", from),
		people(fields, "Reply-To", from),
		people(fields, "To", nothing),
		people(fields, "Cc", nothing),
		people(fields, "Bcc", nothing),
		value(fields, "In-Reply-To"),
		value(fields, "Message-ID"),
	})
}

// value is the string of the value of the first field of a name.
func value(fields []api.Field, name string) string {
	s, there := head.Get(fields, name)
	if !there {
		return nothing
	}
	return quoted(s)
}

// people is the people of the first field of a name, or others, if there are none.
func people(fields []api.Field, name, others string) string {
	s, _ := head.Get(fields, name)
	l, _, e := head.People(s) // nor is nothing a list of people
	if e != api.OK {
		return others
	}
	told := ""
	for _, p := range l {
		called := nothing
		if p.Name != "" {
			called = quoted(p.Name)
		}
		told += list([]string{called, nothing, quoted(p.Addr.Local), quoted(p.Addr.Domain)})
	}
	return opened + told + closed
}

// quoted is the string of a text.
func quoted(s string) string {
	q, _, e := text.Quote(s)
	if e != api.OK {
		return counted(s)
	}
	return q
}

// counted is a text behind how many bytes it has.
func counted(s string) string { return "{" + strconv.Itoa(len(s)) + "}" + lineEnd + s }
