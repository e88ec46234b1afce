package date_test

import (
	"math"
	"math/rand"
	"testing"
	"time"

	"pigeonhole/api"
	"pigeonhole/date"
)

// Numbers of the first day that is right, and of the last one.
const first, last = -719162, 2932896

// day is a day.
func day(year, month, d int) api.Day { return api.Day{Year: year, Month: month, Day: d} }

// moment is a moment.
func moment(sec, zone int) api.Time { return api.Time{Sec: sec, Zone: zone} }

// there is a moment as the library has it.
func there(t api.Time) time.Time {
	return time.Unix(int64(t.Sec), 0).In(time.FixedZone("", 60*t.Zone))
}

// P16.1, Example 1
func TestDays(t *testing.T) {
	for d, want := range map[api.Day]int{
		day(1970, 1, 1): 0, day(1970, 1, 2): 1, day(1969, 12, 31): -1, day(1970, 2, 1): 31, day(1971, 1, 1): 365, day(2000, 3, 1): 11017, day(2000, 2, 29): 11016, day(2000, 2, 28): 11015,
		day(1, 1, 1): first, day(1, 1, 2): first + 1, day(1, 12, 31): first + 364, day(9999, 12, 31): last, day(9999, 12, 30): last - 1, day(2026, 11, 20): 20777, day(1900, 3, 1): -25508, day(1900, 2, 28): -25509,
	} {
		if n, e := date.Days(d); n != want || e != api.OK {
			t.Errorf("Days(%v) = %d, %d, want %d", d, n, e, want)
		}
		if got, e := date.Civil(want); got != d || e != api.OK {
			t.Errorf("Civil(%d) = %v, %d, want %v", want, got, e, d)
		}
	}
}

// P16.1: which days are right.
func TestDaysRight(t *testing.T) {
	far := []int{-1, -12, 10000, 1 << 32, 1<<32 + 1, math.MaxInt, math.MinInt, math.MaxInt - 1, math.MinInt + 1}
	right := func(d api.Day) bool {
		if d.Year < 1 || d.Year > 9999 || d.Month < 1 || d.Month > 12 || d.Day < 1 || d.Day > 31 {
			return false
		}
		// The library takes one that is not right as another one.
		return time.Date(d.Year, time.Month(d.Month), d.Day, 0, 0, 0, 0, time.UTC).Day() == d.Day
	}
	ask := func(d api.Day) {
		n, e := date.Days(d)
		if right(d) != (e == api.OK) || e != api.OK && (n != 0 || e != api.ErrArg) {
			t.Errorf("Days(%v) = %d, %d", d, n, e)
		}
	}
	for _, year := range append([]int{0, 1, 4, 100, 400, 1600, 1700, 1900, 1970, 1996, 1999, 2000, 2001, 2004, 2100, 2400, 9996, 9999}, far...) {
		for _, month := range append([]int{0, 1, 2, 3, 4, 5, 6, 7, 8, 9, 10, 11, 12, 13}, far...) {
			for _, d := range append([]int{0, 1, 27, 28, 29, 30, 31, 32}, far...) {
				ask(day(year, month, d))
			}
		}
	}
	ask(api.Day{})
}

// P16.1, Civil: of which numbers there is a day.
func TestCivil(t *testing.T) {
	for _, n := range []int{first - 1, first - 2, first - 366, last + 1, last + 2, last + 366, 1 << 32, -1 << 32, math.MaxInt, math.MinInt, math.MaxInt - 1, math.MinInt + 1} {
		if d, e := date.Civil(n); d != (api.Day{}) || e != api.ErrArg {
			t.Errorf("Civil(%d) = %v, %d", n, d, e)
		}
	}
}

// P16.1, P16.4 (M1): all days, one by one: the next number is the next day.
func TestAllDays(t *testing.T) {
	lengths := []int{31, 28, 31, 30, 31, 30, 31, 31, 30, 31, 30, 31}
	d, week := day(1, 1, 1), 0 // a Mon
	for n := first; n <= last; n++ {
		if got, e := date.Days(d); got != n || e != api.OK {
			t.Fatalf("Days(%v) = %d, %d, want %d", d, got, e, n)
		}
		if got, e := date.Civil(n); got != d || e != api.OK {
			t.Fatalf("Civil(%d) = %v, %d, want %v", n, got, e, d)
		}
		if got := date.Week(n); got != week {
			t.Fatalf("Week(%d) = %d, want %d", n, got, week)
		}
		week = (week + 1) % 7
		most := lengths[d.Month-1]
		if d.Month == 2 && (d.Year%4 == 0 && d.Year%100 != 0 || d.Year%400 == 0) {
			most++
		}
		d.Day++
		if d.Day > most {
			d.Month, d.Day = d.Month+1, 1
		}
		if d.Month > 12 {
			d.Year, d.Month = d.Year+1, 1
		}
	}
	if d != day(10000, 1, 1) {
		t.Errorf("behind the last day is %v", d)
	}
}

// P16.1, Week: of any number.
func TestWeek(t *testing.T) {
	for n, want := range map[int]int{
		0: 3, 1: 4, 2: 5, 3: 6, 4: 0, 5: 1, 6: 2, 7: 3, -1: 2, -2: 1, -3: 0, -4: 6, -5: 5, -6: 4, -7: 3, first: 0, last: 4,
		math.MaxInt: 3, math.MaxInt - 1: 2, math.MaxInt - 6: 4, math.MinInt: 2, math.MinInt + 1: 3, math.MinInt + 5: 0, // 2^63 is 1 more than a multiple of 7, 2^63 - 1 is one
	} {
		if got := date.Week(n); got != want {
			t.Errorf("Week(%d) = %d, want %d", n, got, want)
		}
	}
	r := rand.New(rand.NewSource(161))
	for range 1000 {
		n := int(r.Uint64()) >> r.Intn(40)
		if a, b := date.Week(n), date.Week(n+1); a < 0 || a > 6 || n < math.MaxInt && b != (a+1)%7 {
			t.Fatalf("Week(%d), and of the next number: %d, %d", n, a, b)
		}
	}
}

// edges are moments at the edges of what is right, and whether they are.
func edges() map[api.Time]bool {
	l := map[api.Time]bool{
		{}: true, moment(0, 1439): true, moment(0, -1439): true, moment(0, 1440): false, moment(0, -1440): false, moment(0, math.MaxInt): false, moment(0, math.MinInt): false,
		moment(math.MaxInt, 0): false, moment(math.MinInt, 0): false, moment(math.MaxInt, -1439): false, moment(math.MinInt, 1439): false, moment(math.MaxInt, 1439): false,
		moment(math.MinInt, -1439): false, moment(math.MaxInt, math.MinInt): false, moment(math.MinInt, math.MaxInt): false, moment(-60<<32, 1<<32): false, moment(0, 1<<32): false,
		moment(0, 1<<58): false, moment(0, math.MaxInt/60+2): false, moment(1<<38, 0): false, moment(-1<<38, 0): false,
	}
	for _, zone := range []int{0, 1, -1, 60, -60, 1438, -1438, 1439, -1439} {
		for _, near := range []int{0, 1, 59, 60, 86399, 86400} {
			l[moment(first*86400-60*zone+near, zone)] = true
			l[moment(first*86400-60*zone-near-1, zone)] = false
			l[moment((last+1)*86400-60*zone-near-1, zone)] = true
			l[moment((last+1)*86400-60*zone+near, zone)] = false
		}
	}
	for _, zone := range []int{1440, -1440, 1441, -1441, 100000} {
		l[moment(0, zone)] = false
		l[moment(-60*zone, zone)] = false
	}
	return l
}

// P16.3: which moments are right; Here, Print and PrintShort are of one mind, and of the library's.
func TestMoments(t *testing.T) {
	ask := func(m api.Time, right bool) {
		t.Helper()
		d, e := date.Here(m)
		long, wrong := date.Print(m)
		short, fault := date.PrintShort(m)
		if !right {
			if d != (api.Day{}) || e != api.ErrArg || long != "" || wrong != api.ErrArg || short != "" || fault != api.ErrArg {
				t.Errorf("of %v: %v, %d, %q, %d, %q, %d", m, d, e, long, wrong, short, fault)
			}
			return
		}
		x := there(m)
		if d != day(x.Year(), int(x.Month()), x.Day()) || e != api.OK {
			t.Errorf("Here(%v) = %v, %d, want %v", m, d, e, x)
		}
		if want := x.Format("Mon, 2 Jan 2006 15:04:05 -0700"); long != want || wrong != api.OK {
			t.Errorf("Print(%v) = %q, %d, want %q", m, long, wrong, want)
		}
		if want := x.Format("_2-Jan-2006 15:04:05 -0700"); short != want || fault != api.OK {
			t.Errorf("PrintShort(%v) = %q, %d, want %q", m, short, fault, want)
		}
		// P16.5 (M1)
		if got, at, e := date.Parse(long); got != m || at != 0 || e != api.OK {
			t.Errorf("Parse of Print(%v) = %v, %d, %d", m, got, at, e)
		}
		if got, at, e := date.ParseShort(short); got != m || at != 0 || e != api.OK {
			t.Errorf("ParseShort of PrintShort(%v) = %v, %d, %d", m, got, at, e)
		}
	}
	for m, right := range edges() {
		ask(m, right)
	}
	r := rand.New(rand.NewSource(163))
	for range 20000 {
		zone := r.Intn(2*1439+1) - 1439
		ask(moment((first+r.Intn(last-first+1))*86400+r.Intn(86400)-60*zone, zone), true)
		ask(moment(r.Intn(1<<31), r.Intn(120)-60), true)
	}
}

// P16.3, Example 2
func TestPrint(t *testing.T) {
	for m, want := range map[api.Time][2]string{
		moment(0, 60):                     {"Thu, 1 Jan 1970 01:00:00 +0100", " 1-Jan-1970 01:00:00 +0100"},
		moment(0, 0):                      {"Thu, 1 Jan 1970 00:00:00 +0000", " 1-Jan-1970 00:00:00 +0000"},
		moment(0, -1):                     {"Wed, 31 Dec 1969 23:59:00 -0001", "31-Dec-1969 23:59:00 -0001"},
		moment(59, 1439):                  {"Thu, 1 Jan 1970 23:59:59 +2359", " 1-Jan-1970 23:59:59 +2359"},
		moment(-1, -1439):                 {"Wed, 31 Dec 1969 00:00:59 -2359", "31-Dec-1969 00:00:59 -2359"},
		moment(951782400, 0):              {"Tue, 29 Feb 2000 00:00:00 +0000", "29-Feb-2000 00:00:00 +0000"},
		moment(first*86400, 0):            {"Mon, 1 Jan 0001 00:00:00 +0000", " 1-Jan-0001 00:00:00 +0000"},
		moment(last*86400+86399, 0):       {"Fri, 31 Dec 9999 23:59:59 +0000", "31-Dec-9999 23:59:59 +0000"},
		moment(first*86400+86340, -1439):  {"Mon, 1 Jan 0001 00:00:00 -2359", " 1-Jan-0001 00:00:00 -2359"},
		moment(last*86400+59, 1439):       {"Fri, 31 Dec 9999 23:59:59 +2359", "31-Dec-9999 23:59:59 +2359"},
		moment(9*86400+10*3600+5*60+7, 0): {"Sat, 10 Jan 1970 10:05:07 +0000", "10-Jan-1970 10:05:07 +0000"},
	} {
		if s, e := date.Print(m); s != want[0] || e != api.OK {
			t.Errorf("Print(%v) = %q, %d, want %q", m, s, e, want[0])
		}
		if s, e := date.PrintShort(m); s != want[1] || e != api.OK {
			t.Errorf("PrintShort(%v) = %q, %d, want %q", m, s, e, want[1])
		}
	}
}
