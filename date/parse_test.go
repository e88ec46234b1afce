package date_test

import (
	"math/rand"
	"strconv"
	"strings"
	"testing"
	"time"

	"pigeonhole/api"
	"pigeonhole/date"
)

// A form is a row of letters' kinds: of each place all letters that may stand there. Of a text of a few forms the place of a fault is how much of it the form takes of which it takes most.
type form []string

// spell are the forms of words in great or small letters, each.
func spell(words ...string) []form {
	var l []form
	for _, w := range words {
		f := form{}
		for _, c := range strings.Split(w, "") {
			f = append(f, strings.ToLower(c)+strings.ToUpper(c))
		}
		l = append(l, f)
	}
	return l
}

// behind are the forms of one of each kind behind another.
func behind(kinds ...[]form) []form {
	l := []form{{}}
	for _, kind := range kinds {
		var longer []form
		for _, f := range l {
			for _, g := range kind {
				longer = append(longer, append(append(form{}, f...), g...))
			}
		}
		l = longer
	}
	return l
}

const (
	six   = "012345"
	three = "0123"
	ten   = "0123456789"
)

var (
	blank, dash  = []form{{" "}}, []form{{"-"}}
	month        = spell("jan", "feb", "mar", "apr", "may", "jun", "jul", "aug", "sep", "oct", "nov", "dec")
	year         = []form{{ten, ten, ten, ten}}
	below24      = []form{{"01", ten}, {"2", three}}
	below60      = []form{{six, ten}}
	second       = []form{{":", six, ten}}
	zone         = behind([]form{{"+-"}}, below24, below60)
	week         = append(behind(spell("mon", "tue", "wed", "thu", "fri", "sat", "sun"), []form{{",", " "}}), form{})
	oneTwo       = []form{{ten}, {ten, ten}}
	longForms    = behind(week, oneTwo, blank, month, blank, year, blank, below24, []form{{":"}}, below60, append([]form{{}}, second...), blank, append(spell("gmt", "ut"), zone...))
	shortForms   = behind([]form{{ten, ten}, {" ", ten}}, dash, month, dash, year, blank, below24, []form{{":"}}, below60, second, blank, zone)
	dayForms     = behind(oneTwo, dash, month, dash, year)
	monthNumbers = map[string]int{"jan": 1, "feb": 2, "mar": 3, "apr": 4, "may": 5, "jun": 6, "jul": 7, "aug": 8, "sep": 9, "oct": 10, "nov": 11, "dec": 12}
)

// fault is the place of what is wrong with a text's form, and the error.
func fault(forms []form, s string) (int, api.Errno) {
	most := 0
	for _, f := range forms {
		n := 0
		for n < len(s) && n < len(f) && strings.IndexByte(f[n], s[n]) >= 0 {
			n++
		}
		if n == len(s) && n == len(f) {
			return 0, api.OK
		}
		most = max(most, n)
	}
	if most == len(s) {
		return most, api.ErrShort
	}
	return most, api.ErrForm
}

// number is a text's number.
func number(s string) int {
	n, err := strconv.Atoi(s)
	if err != nil {
		panic(err)
	}
	return n
}

// dayAgain is the day of a text as ParseDay has it.
func dayAgain(s string) (api.Day, bool) {
	l := strings.Split(strings.ToLower(s), "-")
	d := day(number(l[2]), monthNumbers[l[1]], number(strings.TrimLeft(l[0], " ")))
	x := time.Date(d.Year, time.Month(d.Month), d.Day, 0, 0, 0, 0, time.UTC)
	return d, d.Year > 0 && d.Day > 0 && x.Day() == d.Day
}

// momentAgain is the moment of a text that has the form, whose first words are told by a blank or a - between.
func momentAgain(s string) (api.Time, bool) {
	named, rest, is := strings.Cut(s, ", ")
	if !is {
		named, rest = "", s
	}
	l := strings.Split(strings.TrimLeft(rest, " "), " ")
	if len(l) == 5 {
		l = []string{strings.Join(l[:3], "-"), l[3], l[4]}
	}
	d, right := dayAgain(l[0])
	clock := strings.Split(l[1]+":0", ":")
	ahead := 0
	if z := l[2]; len(z) == 5 {
		ahead = 60*number(z[1:3]) + number(z[3:])
		if z[0] == '-' {
			ahead = -ahead
		}
	}
	x := time.Date(d.Year, time.Month(d.Month), d.Day, number(clock[0]), number(clock[1]), number(clock[2]), 0, time.FixedZone("", 60*ahead))
	if named != "" && !strings.EqualFold(named, x.Weekday().String()[:3]) {
		right = false
	}
	return moment(int(x.Unix()), ahead), right
}

// asks holds what a call tells of a text against what the forms, and the library, say.
func asks[T comparable](t *testing.T, name, s string, call func(string) (T, int, api.Errno), forms []form, told func(string) (T, bool)) api.Errno {
	t.Helper()
	var want T
	at, e := fault(forms, s)
	if e == api.OK {
		x, right := told(s)
		if right {
			want = x
		} else {
			e = api.ErrArg
		}
	}
	if got, n, wrong := call(s); got != want || n != at || wrong != e {
		t.Fatalf("%s(%q) = %v, %d, %d, want %v, %d, %d", name, s, got, n, wrong, want, at, e)
	}
	return e
}

// ask asks all three calls about a text.
func ask(t *testing.T, s string, told map[api.Errno]int) {
	t.Helper()
	told[asks(t, "Parse", s, date.Parse, longForms, momentAgain)]++
	told[asks(t, "ParseShort", s, date.ParseShort, shortForms, momentAgain)]++
	told[asks(t, "ParseDay", s, date.ParseDay, dayForms, dayAgain)]++
}

// P16.2: what is taken.
func TestParse(t *testing.T) {
	for s, want := range map[string]api.Time{
		"Thu, 1 Jan 1970 01:00:00 +0100":  moment(0, 60),
		"1 Jan 1970 00:00 GMT":            moment(0, 0),
		"1 Jan 1970 00:00:00 UT":          moment(0, 0),
		"01 jAN 1970 00:00:01 gMt":        moment(1, 0),
		"tHU, 01 JAN 1970 00:01 uT":       moment(60, 0),
		"1 Jan 1970 00:00 -0000":          moment(0, 0),
		"1 Jan 1970 23:59:59 +2359":       moment(59, 1439),
		"Wed, 31 Dec 1969 00:00:59 -2359": moment(-1, -1439),
		"29 Feb 2000 12:00 -0130":         moment(951831000, -90),
		"Mon, 1 Jan 0001 00:00 +0000":     moment(first*86400, 0),
		"1 Jan 0001 00:00 +2359":          moment(first*86400-86340, 1439),
		"31 Dec 9999 23:59:59 -2359":      moment(last*86400+86399+86340, -1439),
	} {
		if m, at, e := date.Parse(s); m != want || at != 0 || e != api.OK {
			t.Errorf("Parse(%q) = %v, %d, %d, want %v", s, m, at, e, want)
		}
	}
	for s, want := range map[string]api.Time{
		" 1-Jan-1970 01:00:00 +0100": moment(0, 60),
		"01-jan-1970 00:00:00 -0000": moment(0, 0),
		"31-DEC-1969 23:59:00 -0001": moment(0, -1),
		"29-Feb-2000 12:00:09 -0130": moment(951831009, -90),
	} {
		if m, at, e := date.ParseShort(s); m != want || at != 0 || e != api.OK {
			t.Errorf("ParseShort(%q) = %v, %d, %d, want %v", s, m, at, e, want)
		}
	}
	for s, want := range map[string]api.Day{
		"1-Jan-1970": day(1970, 1, 1), "01-jAN-1970": day(1970, 1, 1), "29-FEB-2000": day(2000, 2, 29), "31-Dec-9999": day(9999, 12, 31), "1-jan-0001": day(1, 1, 1),
	} {
		if d, at, e := date.ParseDay(s); d != want || at != 0 || e != api.OK {
			t.Errorf("ParseDay(%q) = %v, %d, %d, want %v", s, d, at, e, want)
		}
	}
}

// place is where a fault is, and which one.
type place struct {
	at int
	e  api.Errno
}

// wrong holds the error that a call tells of a text, and its place, against what is wanted.
func wrong[T comparable](t *testing.T, name, s string, call func(string) (T, int, api.Errno), want place) {
	t.Helper()
	var none T
	if x, at, e := call(s); x != none || at != want.at || e != want.e {
		t.Errorf("%s(%q) = %v, %d, %d, want %v", name, s, x, at, e, want)
	}
}

// P16.2: what is none.
func TestParseErrors(t *testing.T) {
	for s, want := range map[string]place{
		"":                                {0, api.ErrShort},
		"T":                               {1, api.ErrShort},
		"Thu":                             {3, api.ErrShort},
		"Thu,":                            {4, api.ErrShort},
		"Thu, ":                           {5, api.ErrShort},
		"1":                               {1, api.ErrShort},
		"1 Jan 1970 00:00":                {16, api.ErrShort},
		"1 Jan 1970 00:00 G":              {18, api.ErrShort},
		"1 Jan 1970 00:00 +000":           {21, api.ErrShort},
		" ":                               {0, api.ErrForm},
		" 1 Jan 1970 00:00 GMT":           {0, api.ErrForm},
		"x":                               {0, api.ErrForm},
		"Tx":                              {1, api.ErrForm},
		"Ta":                              {1, api.ErrForm},
		"Tun":                             {2, api.ErrForm},
		"Thu 1":                           {3, api.ErrForm},
		"Thursday":                        {3, api.ErrForm},
		"Thu,1":                           {4, api.ErrForm},
		"Thu,  1":                         {5, api.ErrForm},
		"Thu,\t1":                         {4, api.ErrForm},
		"Thu, Fri":                        {5, api.ErrForm},
		"Thu, 1 Jan 1970 00:00:60 GMT":    {22, api.ErrForm},
		"Thu, 1 Jan 1970 00:00:00 GMT ":   {28, api.ErrForm},
		"Thu, 1 Jan 1970 00:00:00 GMT (x": {28, api.ErrForm},
		"001 Jan 1970 00:00 GMT":          {2, api.ErrForm},
		"1  Jan 1970 00:00 GMT":           {2, api.ErrForm},
		"1-Jan-1970 00:00 GMT":            {1, api.ErrForm},
		"1 1 1970 00:00 GMT":              {2, api.ErrForm},
		"1 Jau 1970 00:00 GMT":            {4, api.ErrForm},
		"1 Jum 1970 00:00 GMT":            {4, api.ErrForm},
		"1 Maj 1970 00:00 GMT":            {4, api.ErrForm},
		"1 JanFeb 1970 00:00 GMT":         {5, api.ErrForm},
		"1 Jan 970 00:00 GMT":             {9, api.ErrForm},
		"1 Jan 19700 00:00 GMT":           {10, api.ErrForm},
		"1 Jan -970 00:00 GMT":            {6, api.ErrForm},
		"1 Jan 1970 24:00 GMT":            {12, api.ErrForm},
		"1 Jan 1970 30:00 GMT":            {11, api.ErrForm},
		"1 Jan 1970 1:00 GMT":             {12, api.ErrForm},
		"1 Jan 1970 00:60 GMT":            {14, api.ErrForm},
		"1 Jan 1970 00:00:00GMT":          {19, api.ErrForm},
		"1 Jan 1970 00:00:00:00 GMT":      {19, api.ErrForm},
		"1 Jan 1970 00:00  GMT":           {17, api.ErrForm},
		"1 Jan 1970 00:00 UTC":            {19, api.ErrForm},
		"1 Jan 1970 00:00 GT":             {18, api.ErrForm},
		"1 Jan 1970 00:00 EST":            {17, api.ErrForm},
		"1 Jan 1970 00:00 0000":           {17, api.ErrForm},
		"1 Jan 1970 00:00 +2400":          {19, api.ErrForm},
		"1 Jan 1970 00:00 +3000":          {18, api.ErrForm},
		"1 Jan 1970 00:00 +0060":          {20, api.ErrForm},
		"1 Jan 1970 00:00 +00:00":         {20, api.ErrForm},
		"1 Jan 1970 00:00 +00000":         {22, api.ErrForm},
		"ſun":                             {0, api.ErrForm}, // no S
		"ä":                               {0, api.ErrForm},
		"1 J\xffn":                        {3, api.ErrForm},
		"1\u00a0Jan":                      {1, api.ErrForm},
		"1 Jan 197٠":                      {9, api.ErrForm},
		"1\x00":                           {1, api.ErrForm},
		"\x00":                            {0, api.ErrForm},
		"0 Jan 1970 00:00 GMT":            {0, api.ErrArg},
		"00 Jan 1970 00:00 GMT":           {0, api.ErrArg},
		"32 Jan 1970 00:00 GMT":           {0, api.ErrArg},
		"31 Apr 1970 00:00 GMT":           {0, api.ErrArg},
		"29 Feb 1900 00:00 GMT":           {0, api.ErrArg},
		"1 Jan 0000 00:00 GMT":            {0, api.ErrArg},
		"Fri, 1 Jan 1970 00:00 GMT":       {0, api.ErrArg},
		"Wed, 1 Jan 1970 00:00 +0100":     {0, api.ErrArg}, // it is a Thu there
		"Mon, 31 Apr 1970 00:00 GMT":      {0, api.ErrArg},
		"31 Apr 1970 00:00 GMT ":          {21, api.ErrForm}, // the form goes ahead
		"31 Apr 1970 00:00 GM":            {20, api.ErrShort},
	} {
		wrong(t, "Parse", s, date.Parse, want)
	}
	for s, want := range map[string]place{
		"":                            {0, api.ErrShort},
		" ":                           {1, api.ErrShort},
		"1":                           {1, api.ErrShort},
		"1-Jan-1970 00:00:00 +0000":   {1, api.ErrForm},
		"  1-Jan-1970 00:00:00 +0000": {1, api.ErrForm},
		" 01-Jan-1970 00:00:00 +0000": {2, api.ErrForm},
		"01 Jan 1970 00:00:00 +0000":  {2, api.ErrForm},
		"01-Jan-1970 00:00 +0000":     {17, api.ErrForm},
		"01-Jan-1970 00:00:00 GMT":    {21, api.ErrForm},
		"01-Jan-1970 00:00:00 UT":     {21, api.ErrForm},
		"01-Jan-1970 00:00:00 +0000x": {26, api.ErrForm},
		"Thu, 01-Jan-1970":            {0, api.ErrForm},
		" 0-Jan-1970 00:00:00 +0000":  {0, api.ErrArg},
		"30-Feb-2000 00:00:00 +0000":  {0, api.ErrArg},
		"01-Jan-0000 00:00:00 +0000":  {0, api.ErrArg},
	} {
		wrong(t, "ParseShort", s, date.ParseShort, want)
	}
	for s, want := range map[string]place{
		"": {0, api.ErrShort}, "1-Jan-197": {9, api.ErrShort}, "1-Jan": {5, api.ErrShort}, " 1-Jan-1970": {0, api.ErrForm}, "1 Jan 1970": {1, api.ErrForm}, "\"1-Jan-1970\"": {0, api.ErrForm},
		"1-Jan-1970 ": {10, api.ErrForm}, "1-Jan-19700": {10, api.ErrForm}, "123-Jan-1970": {2, api.ErrForm}, "1-Jan 1970": {5, api.ErrForm}, "0-Jan-1970": {0, api.ErrArg}, "30-Feb-2000": {0, api.ErrArg},
		"29-Feb-2001": {0, api.ErrArg}, "1-Jan-0000": {0, api.ErrArg}, "99-Dec-9999": {0, api.ErrArg}, "99-Dec-9999x": {11, api.ErrForm},
	} {
		wrong(t, "ParseDay", s, date.ParseDay, want)
	}
}

// samples are texts that have a form, or nearly.
var samples = []string{
	"Thu, 1 Jan 1970 00:00:00 +0000", "Tue, 29 Feb 2000 23:59:59 -2359", "31 dec 9999 09:08 gmt", "15 Oct 1582 19:20:21 UT", "Sun, 06 Nov 1994 08:49 GMT", " 6-Nov-1994 08:49:37 +0130", "17-Jul-1996 02:44:25 -0700",
	"1-Feb-1994", "30-sEp-2004", "Sat, 31 Apr 2000 00:00 +0000", "Wed, 7 May 2025 13:45:59 +1245", "Mon, 8 Aug 0008 00:08:08 UT", "Fri, 13 Mar 2026 03:33 -0333", " 9-Jun-0999 20:00:00 +2300",
}

// P16.2: of each sample all beginnings, and each letter of it as another one.
func TestParsePlaces(t *testing.T) {
	told := map[api.Errno]int{}
	for _, s := range samples {
		for i := range len(s) + 1 {
			ask(t, s[:i], told)
			for _, c := range "0123456789 +-:,TGMUSFWJADNOabceghlmnoprtuvyx\x00\tä\xff" {
				ask(t, s[:i]+string(c), told)
				ask(t, s[:i]+string(c)+s[i:], told)
				if i < len(s) {
					ask(t, s[:i]+string(c)+s[i+1:], told)
				}
			}
			if i < len(s) {
				ask(t, s[:i]+s[i+1:], told)
				ask(t, s[:i]+"\xff"+s[i+1:], told)
			}
		}
	}
	for _, e := range []api.Errno{api.OK, api.ErrShort, api.ErrForm, api.ErrArg} {
		if told[e] < 300 {
			t.Errorf("only %d are told as %d", told[e], e)
		}
	}
}

// P16.2: random texts that have a form, right or not.
func TestParseOfAny(t *testing.T) {
	r := rand.New(rand.NewSource(162))
	told := map[api.Errno]int{}
	for i := range 6000 {
		forms := [][]form{longForms, shortForms, dayForms}[i%3]
		var s strings.Builder
		for _, kind := range forms[r.Intn(len(forms))] {
			s.WriteByte(kind[r.Intn(len(kind))])
		}
		ask(t, s.String(), told)
	}
	for _, e := range []api.Errno{api.OK, api.ErrForm, api.ErrArg} {
		if told[e] < 300 {
			t.Errorf("only %d are told as %d", told[e], e)
		}
	}
}

// P16.2: all days of the week at all days of some weeks, with their names.
func TestParseWeeks(t *testing.T) {
	names := []string{"Mon", "Tue", "Wed", "Thu", "Fri", "Sat", "Sun"}
	for n := -800; n < 800; n++ {
		d, _ := date.Civil(n)
		x := time.Date(d.Year, time.Month(d.Month), d.Day, 0, 0, 0, 0, time.UTC)
		for i, name := range names {
			for _, tail := range []string{" 00:00:00 +2359", " 23:59:59 -2359", " 12:00 GMT"} {
				_, at, e := date.Parse(name + x.Format(", 2 Jan 2006") + tail)
				if at != 0 || (e == api.OK) != (i == date.Week(n)) || e != api.OK && e != api.ErrArg {
					t.Fatalf("Parse of %s and %v = %d, %d", name, d, at, e)
				}
			}
		}
	}
}

// P1, P6: each call ends, tells nothing beside an error, and tells the same again.
func TestTextsOfAnyBytes(t *testing.T) {
	r := rand.New(rand.NewSource(1))
	texts := []string{strings.Repeat("1", 1<<20), strings.Repeat(" ", 1<<20), strings.Repeat("Mon, ", 1<<18), strings.Repeat("\xff", 1<<20), "1-Jan-1970" + strings.Repeat("0", 1<<20)}
	for range 20000 {
		b := make([]byte, r.Intn(8))
		r.Read(b)
		s := samples[r.Intn(len(samples))]
		texts = append(texts, string(b), s[:r.Intn(len(s)+1)]+string(b))
	}
	for _, s := range texts {
		again(t, "Parse", s, date.Parse)
		again(t, "ParseShort", s, date.ParseShort)
		again(t, "ParseDay", s, date.ParseDay)
	}
}

// again asks twice, and holds what is told against what may be told beside it.
func again[T comparable](t *testing.T, name, s string, call func(string) (T, int, api.Errno)) {
	t.Helper()
	var none T
	x, at, e := call(s)
	y, place, fault := call(s)
	if x != y || at != place || e != fault || e != api.OK && x != none || (e == api.OK || e == api.ErrArg) && at != 0 {
		t.Fatalf("%s(%.40q) = %v, %d, %d, and %v, %d, %d", name, s, x, at, e, y, place, fault)
	}
}
