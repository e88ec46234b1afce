package date

import "pigeonhole/api"

// stamp is a day and a time there, as they are read, letter by letter.
type stamp struct {
	reader
	day         api.Day
	weekly      bool // is the day of the week told?
	week        int
	clock, zone int // seconds, minutes
}

// Parse is a letter's moment.
func Parse(s string) (api.Time, int, api.Errno) {
	x := &stamp{reader: reader{text: s}}
	if !x.is(figures) {
		x.weekly, x.week = true, x.word(weeks)
		x.one(",")
		x.one(" ")
	}
	x.shortDay()
	x.monthYear(" ")
	x.one(" ")
	x.hourMinute()
	if x.is(":") {
		x.second()
	}
	x.one(" ")
	x.place("+-GU")
	return x.moment()
}

// ParseShort is a command's moment.
func ParseShort(s string) (api.Time, int, api.Errno) {
	x := &stamp{reader: reader{text: s}}
	if x.is(" ") {
		x.one(" ")
		x.day.Day = x.number(1)
	} else {
		x.day.Day = x.number(2)
	}
	x.monthYear("-")
	x.one(" ")
	x.hourMinute()
	x.second()
	x.one(" ")
	x.place("+-")
	return x.moment()
}

// ParseDay is a command's day.
func ParseDay(s string) (api.Day, int, api.Errno) {
	x := &stamp{reader: reader{text: s}}
	x.shortDay()
	x.monthYear("-")
	if at, e := x.end(); e != api.OK {
		return api.Day{}, at, e
	}
	if _, e := Days(x.day); e != api.OK {
		return api.Day{}, 0, e
	}
	return x.day, 0, api.OK
}

// shortDay reads a day of one or two digits.
func (x *stamp) shortDay() {
	x.day.Day = x.number(1)
	if x.is(figures) {
		x.day.Day = 10*x.day.Day + x.number(1)
	}
}

// monthYear reads a month and a year, with this sign ahead of each.
func (x *stamp) monthYear(sign string) {
	x.one(sign)
	x.day.Month = 1 + x.word(months)
	x.one(sign)
	x.day.Year = x.number(4)
}

// hourMinute reads an hour and a minute.
func (x *stamp) hourMinute() {
	x.clock = 3600 * x.below(24)
	x.one(":")
	x.clock += 60 * x.below(60)
}

// second reads a second.
func (x *stamp) second() {
	x.one(":")
	x.clock += x.below(60)
}

// place reads a zone that begins with one of these.
func (x *stamp) place(these string) {
	switch x.one(these) {
	case "+":
		x.zone = 60*x.below(24) + x.below(60)
	case "-":
		x.zone = -60*x.below(24) - x.below(60)
	case "G":
		x.one("M")
		x.one("T")
	case "U":
		x.one("T")
	}
}

// moment is what was read, or what is wrong with it.
func (x *stamp) moment() (api.Time, int, api.Errno) {
	if at, e := x.end(); e != api.OK {
		return api.Time{}, at, e
	}
	days, e := Days(x.day)
	if e != api.OK || x.weekly && x.week != Week(days) {
		return api.Time{}, 0, api.ErrArg
	}
	// Its day there, and its zone, are right: so is the moment.
	return api.Time{Sec: days*daySecs + x.clock - 60*x.zone, Zone: x.zone}, 0, api.OK
}
