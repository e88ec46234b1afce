package date

import (
	"strconv"
	"strings"

	"pigeonhole/api"
)

// Words of three letters each.
const (
	months = "JanFebMarAprMayJunJulAugSepOctNovDec"
	weeks  = "MonTueWedThuFriSatSun"
)

// Print is a moment as in a letter.
func Print(t api.Time) (string, api.Errno) {
	days, over, e := there(t)
	if e != api.OK {
		return "", e
	}
	d, _ := Civil(days) // of a moment that is right there is such a day
	s := nth(weeks, Week(days)) + ", " + strconv.Itoa(d.Day) + " " + nth(months, d.Month-1) + " " + digits(d.Year, 4)
	return s + clockZone(over, t.Zone), api.OK
}

// PrintShort is a moment as in a command.
func PrintShort(t api.Time) (string, api.Errno) {
	days, over, e := there(t)
	if e != api.OK {
		return "", e
	}
	d, _ := Civil(days)
	s := strconv.Itoa(d.Day) + "-" + nth(months, d.Month-1) + "-" + digits(d.Year, 4)
	if d.Day < 10 {
		s = " " + s
	}
	return s + clockZone(over, t.Zone), api.OK
}

// clockZone is what stands behind a day: the time, so many seconds being over, and the zone.
func clockZone(over, zone int) string {
	sign := " +"
	if zone < 0 {
		sign, zone = " -", -zone
	}
	clock := digits(over/3600, 2) + ":" + digits(over/60%60, 2) + ":" + digits(over%60, 2)
	return " " + clock + sign + digits(zone/60, 2) + digits(zone%60, 2)
}

// nth is a word of some of three letters each, from 0 on.
func nth(words string, n int) string { return words[3*n : 3*n+3] }

// digits is a number that has no more than so many digits, with just as many.
func digits(n, size int) string {
	s := strconv.Itoa(n)
	return strings.Repeat("0", size-len(s)) + s
}
