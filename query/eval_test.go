package query_test

import (
	"bytes"
	"math"
	"math/rand"
	"regexp"
	"slices"
	"strconv"
	"strings"
	"testing"
	"time"

	"pigeonhole/api"
	"pigeonhole/date"
	"pigeonhole/query"
)

// letter is a letter that is asked, with nothing else known of it.
func letter(s string) api.Sight { return api.Sight{Letter: api.Letter{Bytes: []byte(s)}} }

// evals holds what Eval tells of a question and a letter against what is wanted, and so that of the question's NOT.
func evals(t *testing.T, want bool, x api.Sight, l ...api.Key) {
	t.Helper()
	if ok, e := query.Eval(l, x); ok != want || e != api.OK {
		t.Errorf("Eval(%.300v, %.300v) = %v, %d", l, x, ok, e)
	}
	if ok, e := query.Eval(append(slices.Clone(l), not), x); ok == want || e != api.OK {
		t.Errorf("Eval(%.300v, not, %.300v) = %v, %d", l, x, ok, e)
	}
}

// P19.3: flags, and how many bytes.
func TestEvalFlagsSizes(t *testing.T) {
	for f := range 256 {
		x := api.Sight{Letter: api.Letter{Flags: uint8(f)}}
		evals(t, true, x, all)
		for _, bit := range []uint8{1, 2, 4, 8, 16} {
			evals(t, uint8(f)&bit != 0, x, has(bit))
			evals(t, uint8(f)&bit == 0, x, lacks(bit))
		}
	}
	for _, n := range []int{0, 1, 2, 5, 700} {
		x := letter(rep("ä", n)) // bytes, not letters
		for _, most := range []int{0, 1, 2*n - 1, 2 * n, 2*n + 1, top} {
			if most < 0 {
				continue
			}
			evals(t, 2*n > most, x, size(api.KeyLarger, most))
			evals(t, 2*n < most, x, size(api.KeySmaller, most))
		}
	}
}

// P19.3: the letter's number, and its UID.
func TestEvalSets(t *testing.T) {
	for _, c := range []struct {
		set     string
		n, most int
		want    bool
	}{
		{"1", 1, 0, true}, {"1", 2, 2, false}, {"5:3", 4, 9, true}, {"5:3", 2, 9, false}, {"5:3,9", 9, 1, true}, {"1,3", 2, 3, false}, {"4294967295", top, 0, true}, {"4294967295", top - 1, 0, false},
		{"*", 7, 7, true}, {"*", 6, 7, false}, {"*", 8, 7, false}, {"5:*", 6, 7, true}, {"5:*", 8, 7, false}, {"5:*", 3, 3, true}, {"5:*", 4, 3, true}, {"5:*", 2, 3, false}, {"5:*", 6, 3, false}, {"*:1", 1, 1, true}, {"*:*", 3, 3, true},
		// A * that is 0 makes all of the set be none, a number in it, too.
		{"*", 0, 0, false}, {"*", 1, 0, false}, {"1,*", 1, 0, false}, {"1:*", 1, 0, false}, {"*:1", 0, 0, false}, {"1:*", 1, 1, true}, {"1,*", 1, 1, true},
		// It counts as 0 below that, and as MaxNumber above it.
		{"1:*", 1, -1, false}, {"*", -1, -1, false}, {"1:*", 1, math.MinInt, false}, {"*", top, top, true}, {"*", top, top + 1, true}, {"*", top + 1, top + 1, false}, {"*", top, math.MaxInt, true}, {"5:*", top, math.MaxInt, true}, {"5:*", math.MaxInt, math.MaxInt, false}, {"*", 1 << 32, 1 << 32, false},
		// Numbers of any size are asked.
		{"1:4294967295", 0, 1, false}, {"1:4294967295", -1, 1, false}, {"1:4294967295", top + 1, 1, false}, {"1:4294967295", math.MinInt, 1, false}, {"1:4294967295", math.MaxInt, 1, false}, {"1:*", 5, top, true},
	} {
		evals(t, c.want, api.Sight{N: c.n, Most: c.most}, numbers(c.set))
		evals(t, c.want, api.Sight{N: c.n, Most: c.most, Last: 500, Letter: api.Letter{UID: 77777}}, numbers(c.set))
		evals(t, c.want, api.Sight{Letter: api.Letter{UID: c.n}, Last: c.most}, uids(c.set))
		evals(t, c.want, api.Sight{Letter: api.Letter{UID: c.n}, Last: c.most, N: 77777, Most: 500}, uids(c.set))
	}
}

// P19.3: the day that is written in a letter.
func TestEvalDays(t *testing.T) {
	day := api.Day{Year: 2000, Month: 3, Day: 1}
	asks := func(head string, order int) {
		t.Helper()
		x := letter(head + "\r\n\r\nDate: Wed, 1 Mar 2000 00:00 GMT\r\n")
		for i, op := range []api.KeyOp{api.KeyBefore, api.KeyOn, api.KeySince} {
			want := []bool{order < 0, order == 0, order == 0 || order == 1}[i]
			evals(t, want, x, api.Key{Op: op, Day: day})
		}
	}
	const none = 2
	asks("Date: Wed, 1 Mar 2000 12:00:00 +0000", 0)
	asks("Date: 1 Mar 2000 00:00 GMT", 0)
	asks("Date: 1 Mar 2000 23:59:59 UT", 0)
	asks("Date: 29 Feb 2000 23:59:59 +0000", -1)
	asks("Date: 2 Mar 2000 00:00:00 +0000", 1)
	asks("Date: 1 Apr 1999 00:00 +0000", -1)
	asks("Date: 31 Dec 1999 00:00 +0000", -1)
	asks("Date: 1 Jan 2001 00:00 +0000", 1)
	asks("Date: 28 Feb 2001 00:00 +0000", 1)
	asks("Date: 1 Jan 0001 00:00 +0000", -1)
	asks("Date: 31 Dec 9999 23:59 +0000", 1)
	// The day there: the zone plays no part.
	asks("Date: 1 Mar 2000 00:00:00 +2359", 0)
	asks("Date: 1 Mar 2000 23:59:59 -2359", 0)
	asks("Date: 29 Feb 2000 23:59:59 -2359", -1)
	asks("Date: 2 Mar 2000 00:00:00 +2359", 1)
	// The first field of that name, however it is written.
	asks("date:\t1 mar 2000 00:00 gmt", 0)
	asks("DATE: WED, 1 MAR 2000 00:00 UT", 0)
	asks("Date: Wed,\r\n 1 Mar\r\n\t2000 00:00 GMT", none)
	asks("Date: Wed,\r\n 1 Mar\r\n 2000\r\n 00:00 GMT", 0)
	asks("From: x\r\nDate: 1 Mar 2000 00:00 GMT\r\nDate: 2 Mar 2000 00:00 GMT", 0)
	asks("Date: x\r\nDate: 1 Mar 2000 00:00 GMT", none)
	// There is none.
	asks("Date:", none)
	asks("From: 1 Mar 2000 00:00 GMT", none)
	asks("Date: Thu, 1 Mar 2000 00:00 GMT", none)
	asks("Date: 30 Feb 2000 00:00 GMT", none)
	asks("Date: 1 Mar 2000", none)
	asks("Date: 1 Mar 2000 00:00 GMT (x)", none)
	asks("Date: 1 Mar 2000 00:00 GMT\r\nno field", none)
	asks("X: y\r\n\r\nDate: 1 Mar 2000 00:00 GMT", none)
	asks("", none)
}

// P19.3: fields, the body, and all bytes.
func TestEvalTexts(t *testing.T) {
	x := letter("Subject: Hello\r\n  World\r\nX-A: one\r\nx-a: Two\r\nEmpty:\r\n\r\nThe Body:\r\n hello ÄÖ")
	for _, c := range []struct {
		name, s string
		want    bool
	}{
		{"subject", "hello", true}, {"Subject", "HELLO", true}, {"sUBJECT", "lo  wOr", true}, {"subject", "Hello  World", true}, {"subject", "hello world", false}, {"subject", "", true}, {"subject", "body", false}, {"subject", "subject", false}, {"subject", "hello  world ", false}, {"subject", " hello", false},
		{"x-a", "one", true}, {"X-A", "TWO", true}, {"x-A", "e", true}, {"x-a", "onetwo", false}, {"x-a", "three", false}, {"x", "", false}, {"X-A-", "", false}, {"empty", "", true}, {"empty", " ", false}, {"from", "", false}, {"the", "", false}, {"the", "body", false},
	} {
		evals(t, c.want, x, field(c.name, c.s))
	}
	for s, want := range map[string][2]bool{
		"the body": {true, true}, "THE BODY: ": {false, false}, "": {true, true}, "hello": {true, true}, " Hello ä": {false, false}, " Hello Ä": {true, true}, "ÄÖ": {true, true}, "äö": {false, false}, // only a to z have great letters
		"world": {false, true}, "subject: HELLO": {false, true}, "empty:": {false, true}, "hello  world": {false, false}, "x": {false, true}, "no": {false, false}, rep("x", 1024): {false, false},
	} {
		evals(t, want[0], x, said(api.KeyBody, s))
		evals(t, want[1], x, said(api.KeyText, s))
	}
	// With an error in its head a letter has no fields, and all is its body.
	for _, s := range []string{"Subject: hello\r\nno field\r\n\r\nbehind", " Subject: hello\r\nSubject: behind", "Subject: hello\r\nX: behind" + rep("x", 1030), rep("Subject: hello\r\n", 41) + "\r\nbehind"} {
		evals(t, false, letter(s), field("subject", ""))
		evals(t, false, letter(s), field("subject", "hello"))
		for _, part := range []string{"", "subject", "HELLO", "Subject: hello", "behind"} {
			evals(t, true, letter(s), said(api.KeyBody, part))
			evals(t, true, letter(s), said(api.KeyText, part))
		}
	}
	for _, s := range []string{"", "\r\n", "\r\n\r\n"} {
		evals(t, false, letter(s), field("subject", ""))
		evals(t, true, letter(s), said(api.KeyBody, ""))
		evals(t, true, letter(s), said(api.KeyText, ""))
		evals(t, false, letter(s), said(api.KeyText, "x"))
	}
	evals(t, false, letter("Subject: hello"), said(api.KeyBody, "o"))
	evals(t, true, letter("Subject: hello"), field("subject", "o"))
	evals(t, true, letter("a:\x00\xff A\xff\r\n\r\nB\xff"), field("a", "a"))
	evals(t, true, letter("a:\x00\xff A\xff\r\n\r\nB\xff"), said(api.KeyBody, "b"))
	evals(t, true, letter(rep("x", 1<<20)+"HELLO"), said(api.KeyBody, "hello"))
	evals(t, true, letter("\r\n"+rep("Hell", 1<<18)+"HELLO"), said(api.KeyText, "hello"))
}

// P19.3: keys that take others.
func TestEvalNests(t *testing.T) {
	for n := range 8 {
		x := api.Sight{Letter: api.Letter{Flags: uint8(n)}}
		a, b, c := n&1 != 0, n&2 != 0, n&4 != 0
		evals(t, !a, x, has(1), not)
		evals(t, a && b, x, has(1), has(2), and)
		evals(t, a || b, x, has(1), has(2), or)
		evals(t, a && (b || c), x, has(1), has(2), has(4), or, and)
		evals(t, a && b || c, x, has(1), has(2), and, has(4), or)
		evals(t, a || !b && c, x, has(1), has(2), not, has(4), and, or)
		evals(t, !(a || b) && !c, x, has(1), has(2), or, not, has(4), not, and)
		evals(t, a, x, append(of(has(1)), some(46, not)...)...)
		evals(t, !a, x, append(append(some(8, has(1)), some(7, and)...), not)...)
		evals(t, b || c || a, x, has(2), has(4), has(1), has(2), has(4), has(1), has(2), has(1), or, or, or, or, or, or, or)
	}
}

// boxed is a box of letters of these texts, with the UIDs 10, 20, and so on.
func boxed(l ...string) api.Box {
	b := api.Box{Name: "a box", Valid: 7, Next: 1000}
	for i, s := range l {
		b.Letters = append(b.Letters, api.Letter{UID: 10 * (i + 1), Flags: uint8(i), Bytes: []byte(s)})
	}
	return b
}

// picks holds what Pick tells against what is wanted.
func picks(t *testing.T, want []int, view []int, b api.Box, l ...api.Key) {
	t.Helper()
	if got, e := query.Pick(l, view, b); !slices.Equal(got, want) || e != api.OK {
		t.Errorf("Pick(%v, %.100v) = %v, %d, want %v", l, view, got, e, want)
	}
}

// P19.4
func TestPick(t *testing.T) {
	b := boxed("Subject: a\r\n\r\none", "Subject: B\r\n\r\ntwo", "Subject: a b\r\n\r\nthree", "four", "")
	view := []int{10, 20, 30, 40, 50}
	picks(t, []int{1, 2, 3, 4, 5}, view, b, all)
	picks(t, []int{1, 3}, view, b, field("subject", "A"))
	picks(t, []int{2, 4}, view, b, has(1))
	picks(t, []int{2, 3}, view, b, field("subject", "b"))
	picks(t, []int{3}, view, b, field("subject", "b"), field("subject", "a"), and)
	picks(t, nil, view, b, said(api.KeyText, "five"))
	picks(t, []int{2, 3, 4}, view, b, numbers("2:4"))
	picks(t, []int{5}, view, b, numbers("*"))
	picks(t, []int{2, 3}, view, b, uids("11:39"))
	picks(t, []int{5}, view, b, uids("*"))
	picks(t, []int{5}, view, b, uids("60:*"), uids("50"), and)
	// What is gone is told no more, but has its number.
	gone := []int{5, 10, 15, 30, 50, 999}
	picks(t, []int{2, 4, 5}, gone, b, all)
	picks(t, []int{2, 4}, gone, b, numbers("1:4"))
	picks(t, nil, gone, b, numbers("*"))
	picks(t, nil, gone, b, uids("*"))
	picks(t, []int{4, 5}, gone, b, numbers("*:3"), numbers("3"), not, and)
	picks(t, []int{4, 5}, gone, b, uids("30:*"))
	// The last one of the view, not of the box, and how many the view has.
	picks(t, []int{1, 2}, []int{10, 20}, b, all)
	picks(t, []int{2}, []int{10, 20}, b, numbers("*"))
	picks(t, []int{2}, []int{10, 20}, b, uids("*"))
	picks(t, []int{2}, []int{10, 20}, b, uids("50:*"))
	picks(t, nil, []int{10, 20}, b, uids("30"))
	// A view of any numbers: in its own order, as often as they are there.
	picks(t, []int{1, 3, 4}, []int{50, 7, 10, 50}, b, lacks(1))
	picks(t, []int{1, 3}, []int{20, 20, 20}, b, numbers("1,3"))
	picks(t, []int{1, 2, 3}, []int{20, 20, 20}, b, uids("*"))
	picks(t, []int{2}, []int{math.MinInt, 10, 0, -1, math.MaxInt}, b, all)
	picks(t, []int{2}, []int{0, 10, math.MaxInt}, b, uids("10:*"))
	picks(t, nil, []int{10, 0}, b, uids("10:*")) // a * that is 0
	picks(t, nil, []int{10, -5}, b, uids("10:*"))
	picks(t, []int{1}, []int{10, 0}, b, uids("10"))
	picks(t, []int{1}, []int{10, 0}, b, numbers("1:*"), uids("10"), and)
	// Nothing is there.
	picks(t, nil, nil, b, all)
	picks(t, nil, []int{}, b, numbers("1:*"), uids("1:*"), or)
	picks(t, nil, view, api.Box{Valid: 1, Next: 1}, all)
	if l, e := query.Pick(of(has(1)), make([]int, 1<<20), b); len(l) != 0 || e != api.OK {
		t.Errorf("Pick of a long view = %v, %d", l, e)
	}
}

// P19.4: errors, and which goes ahead.
func TestPickWrong(t *testing.T) {
	b := boxed("a")
	for _, c := range []struct {
		b    api.Box
		want api.Errno
	}{
		{api.Box{}, api.ErrArg}, {api.Box{Valid: 1}, api.ErrArg}, {api.Box{Next: 1}, api.ErrArg}, {api.Box{Valid: 1, Next: 1, Letters: make([]api.Letter, 33)}, api.ErrFull}, {api.Box{Valid: 1, Next: 1, Letters: make([]api.Letter, 1)}, api.ErrForm},
		{api.Box{Valid: 1, Next: 9, Letters: []api.Letter{{UID: 1, Flags: 32}}}, api.ErrArg}, {boxed(rep("x", 601)), api.ErrLimit},
	} {
		for _, view := range [][]int{nil, {1}, {10}} {
			if l, e := query.Pick(of(all), view, c.b); len(l) != 0 || e != c.want {
				t.Errorf("Pick of the box %.100v = %v, %d, want %d", c.b, l, e, c.want)
			}
			if l, e := query.Pick(of(all, api.Key{}), view, c.b); len(l) != 0 || e != api.ErrType {
				t.Errorf("Pick of the box %.100v, and no question = %v, %d", c.b, l, e)
			}
		}
	}
	if l, e := query.Pick(nil, []int{10}, b); len(l) != 0 || e != api.ErrArg {
		t.Errorf("Pick of no question = %v, %d", l, e)
	}
}

// asked is Eval, said another way, of a letter whose lines all end with a line's end: from the last key on.
func asked(l []api.Key, x api.Sight) bool {
	at := len(l)
	var ask func() bool
	ask = func() bool {
		at--
		k := l[at]
		switch k.Op {
		case api.KeyNot:
			return !ask()
		case api.KeyAnd, api.KeyOr:
			b, a := ask(), ask()
			return k.Op == api.KeyAnd && a && b || k.Op == api.KeyOr && (a || b)
		}
		return fits(k, x)
	}
	return ask()
}

var (
	headForm  = regexp.MustCompile(`^(([a-z-]+:[^\r]*|[ ][^\r]*)(\r\n|$))*$`)
	fieldForm = regexp.MustCompile(`(?m)^([a-z-]+):(.*?)\r?$`)
	dateForm  = regexp.MustCompile(`(?m)^date:(.*?)\r?$`)
)

// fits is whether a leaf is true of a letter, said another way.
func fits(k api.Key, x api.Sight) bool {
	s := strings.ToLower(string(x.Letter.Bytes))
	head, body, _ := strings.Cut(s, "\r\n\r\n")
	if !headForm.MatchString(head) || strings.HasPrefix(s, " ") {
		head, body = "", s
	}
	head = strings.ReplaceAll(head, "\r\n ", " ")
	within := func(set string, n, star int) bool {
		if strings.Contains(set, "*") && star <= 0 {
			return false
		}
		for part := range strings.SplitSeq(strings.ReplaceAll(set, "*", strconv.Itoa(min(star, top))), ",") {
			from, to, two := strings.Cut(part, ":")
			a, _ := strconv.Atoi(from)
			b, _ := strconv.Atoi(to)
			if !two {
				b = a
			}
			if min(a, b) <= n && n <= max(a, b) {
				return true
			}
		}
		return false
	}
	switch k.Op {
	case api.KeyHas:
		return k.Flags == k.Flags&x.Letter.Flags
	case api.KeyLacks:
		return k.Flags != k.Flags&x.Letter.Flags
	case api.KeyLarger:
		return k.N < len(x.Letter.Bytes)
	case api.KeySmaller:
		return k.N > len(x.Letter.Bytes)
	case api.KeyNumbers:
		return within(k.Set, x.N, x.Most)
	case api.KeyUIDs:
		return within(k.Set, x.Letter.UID, x.Last)
	case api.KeyBefore, api.KeyOn, api.KeySince:
		m := dateForm.FindStringSubmatch(head)
		if m == nil {
			return false
		}
		at, _, e := date.Parse(strings.TrimSpace(m[1]))
		if e != api.OK {
			return false
		}
		there := time.Unix(int64(at.Sec), 0).In(time.FixedZone("", 60*at.Zone)).Format("2006-01-02")
		day := time.Date(k.Day.Year, time.Month(k.Day.Month), k.Day.Day, 0, 0, 0, 0, time.UTC).Format("2006-01-02")
		return k.Op == api.KeyBefore && there < day || k.Op == api.KeyOn && there == day || k.Op == api.KeySince && there >= day
	case api.KeyField:
		for _, m := range fieldForm.FindAllStringSubmatch(head, -1) {
			if m[1] == strings.ToLower(k.Name) && strings.Contains(strings.TrimSpace(m[2]), strings.ToLower(k.Text)) {
				return true
			}
		}
		return false
	case api.KeyBody:
		return strings.Contains(body, strings.ToLower(k.Text))
	case api.KeyText:
		return strings.Contains(s, strings.ToLower(k.Text))
	}
	return true
}

// anyLeaf is a random leaf, of what is in random letters.
func anyLeaf(r *rand.Rand) api.Key {
	words := []string{"", "a", "B", "Hello", "hello world", "subject", ":", "x"}
	sets := []string{"1", "2:4", "*", "3:*", "1,5", "*:2,9", "10:30", "4294967295"}
	day := api.Day{Year: 2000, Month: 1 + r.Intn(3), Day: 1 + r.Intn(29)}
	word := words[r.Intn(len(words))]
	switch r.Intn(12) {
	case 0:
		return has(1 << r.Intn(5))
	case 1:
		return lacks(1 << r.Intn(5))
	case 2:
		return size(api.KeyLarger, r.Intn(60))
	case 3:
		return size(api.KeySmaller, r.Intn(60))
	case 4:
		return numbers(sets[r.Intn(len(sets))])
	case 5:
		return uids(sets[r.Intn(len(sets))])
	case 6:
		return said(api.KeyBody, word)
	case 7:
		return said(api.KeyText, word)
	case 8:
		return all
	case 9:
		day.Day = 1 + r.Intn(2)
		return api.Key{Op: api.KeyBefore + api.KeyOp(r.Intn(3)), Day: day}
	}
	return field([]string{"subject", "From", "X-a", "date"}[r.Intn(4)], word)
}

// anySight is a random letter.
func anySight(r *rand.Rand) api.Sight {
	lines := []string{"Subject: Hello", "SUBJECT:b", "From: a\r\n B", "X-A:", "x-a: hello\r\n  world ", "Date: 1 Feb 2000 00:00 +0000", "date: 2 JAN 2000 12:00 -1200", "Date: 1 Mar 2000", "Date: 1 Mar 2000 10:00 GMT", "To: x"}
	var s strings.Builder
	for range r.Intn(5) {
		s.WriteString(lines[r.Intn(len(lines))] + "\r\n")
	}
	switch r.Intn(8) {
	case 0:
		s.WriteString("no field\r\n")
	case 1:
		s.Reset()
		s.WriteString(" ahead\r\n")
	}
	s.WriteString("\r\n" + []string{"", "hello World", "A: b\r\n\r\nSubject", "bb\r\n"}[r.Intn(4)])
	some := []int{0, 1, 2, 3, 5, 9, 10, 20, top, -1, math.MaxInt}
	pick := func() int { return some[r.Intn(len(some))] }
	return api.Sight{N: pick(), Most: pick(), Last: pick(), Letter: api.Letter{UID: pick(), Flags: uint8(r.Intn(256)), Bytes: []byte(s.String())}}
}

// P19.3, P19.4, P1, P3, P6: random questions, and letters.
func TestEvalOfAny(t *testing.T) {
	r := rand.New(rand.NewSource(193))
	told := map[bool]int{}
	for range 30000 {
		l, x := anyQuestion(r, func() api.Key { return anyLeaf(r) }), anySight(r)
		kept, bytesKept := slices.Clone(l), bytes.Clone(x.Letter.Bytes)
		want := asked(l, x)
		evals(t, want, x, l...)
		told[want]++
		if !slices.Equal(l, kept) || !bytes.Equal(x.Letter.Bytes, bytesKept) {
			t.Fatalf("Eval(%v) changed something", kept)
		}
		if t.Failed() {
			t.FailNow()
		}
	}
	if told[true] < 5000 || told[false] < 5000 {
		t.Errorf("too few are told: %v", told)
	}
	for range 3000 {
		l := anyQuestion(r, func() api.Key { return anyLeaf(r) })
		b := api.Box{Valid: 1, Next: 100}
		for uid := 1; uid < 30; uid += 1 + r.Intn(5) {
			b.Letters = append(b.Letters, api.Letter{UID: uid, Flags: uint8(r.Intn(32)), Bytes: anySight(r).Letter.Bytes})
		}
		var view, want []int
		for range r.Intn(20) {
			view = append(view, r.Intn(31))
		}
		for i, uid := range view {
			for _, x := range b.Letters {
				if x.UID == uid && asked(l, api.Sight{N: i + 1, Most: len(view), Last: view[len(view)-1], Letter: x}) {
					want = append(want, i+1)
				}
			}
		}
		kept := slices.Clone(view)
		picks(t, want, view, b, l...)
		if t.Failed() || !slices.Equal(view, kept) {
			t.FailNow()
		}
	}
}

// P19.6: NOT of OR is AND of NOTs; what is asked twice is as asked once; the order of two plays no part.
func TestEvalFollows(t *testing.T) {
	r := rand.New(rand.NewSource(196))
	leaf := func() api.Key { return anyLeaf(r) }
	for range 20000 {
		a, b, x := anyQuestion(r, leaf), anyQuestion(r, leaf), anySight(r)
		ask := func(parts ...[]api.Key) bool {
			ok, e := query.Eval(slices.Concat(parts...), x)
			if e != api.OK {
				t.Fatalf("Eval of %v and %v is told %d", a, b, e)
			}
			return ok
		}
		if len(a)+len(b) > 44 || query.Check(slices.Concat(a, b, of(and))) != api.OK || query.Check(slices.Concat(b, a, of(and))) != api.OK || query.Check(slices.Concat(a, a, of(and))) != api.OK {
			continue
		}
		if ask(a, b, of(or, not)) != ask(a, of(not), b, of(not), of(and)) || ask(a, b, of(and, not)) != ask(a, of(not), b, of(not), of(or)) {
			t.Fatalf("NOT of %v and %v, of %v", a, b, x)
		}
		if ask(a, a, of(and)) != ask(a) || ask(a, a, of(or)) != ask(a) {
			t.Fatalf("%v twice, of %v", a, x)
		}
		if ask(a, b, of(or)) != ask(b, a, of(or)) || ask(a, b, of(and)) != ask(b, a, of(and)) {
			t.Fatalf("%v and %v the other way round, of %v", a, b, x)
		}
	}
}

// P1: all calls end, at any arguments.
func TestAnyArguments(t *testing.T) {
	r := rand.New(rand.NewSource(1))
	some := append(wrong(), append(leaves, not, or, and, api.Key{}, api.Key{Op: -5}, api.Key{Op: 99}, api.Key{Op: math.MaxInt})...)
	for range 20000 {
		var l []api.Key
		for range r.Intn(10) {
			l = append(l, some[r.Intn(len(some))])
		}
		checks(t, l, query.Check(l))
		x := anySight(r)
		first, e := query.Eval(l, x)
		if again, fault := query.Eval(l, x); again != first || fault != e {
			t.Fatalf("Eval(%v) is told %v and %v", l, first, again)
		}
		query.Pick(l, []int{x.N, x.Most}, boxed(string(x.Letter.Bytes)))
		text := make([]byte, r.Intn(12))
		r.Read(text)
		query.Parse(string(text))
	}
}
