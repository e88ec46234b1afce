package box_test

import (
	"bytes"
	"math"
	"math/rand"
	"reflect"
	"slices"
	"strconv"
	"strings"
	"testing"

	"pigeonhole/api"
	"pigeonhole/box"
)

// top is the greatest number.
const top = 1<<32 - 1

// far are numbers that are far out of each range.
var far = []int{-1, -2, 1 << 33, math.MaxInt, math.MaxInt - 1, math.MinInt}

// letter is a letter.
func letter(uid int, flags uint8, p string) api.Letter {
	return api.Letter{UID: uid, Flags: flags, Bytes: []byte(p)}
}

// of is a box of letters.
func of(next int, l ...api.Letter) api.Box {
	return api.Box{Name: "a box", Valid: 7, Next: next, Letters: l}
}

// many is a box of n letters.
func many(n int) api.Box {
	b := of(n + 1)
	for i := range n {
		b.Letters = append(b.Letters, letter(i+1, uint8(i%32), strconv.Itoa(i)))
	}
	return b
}

// alike: have two boxes the same in them, whether a list is nil or empty?
func alike(a, b api.Box) bool {
	return a.Name == b.Name && a.Valid == b.Valid && a.Next == b.Next && slices.EqualFunc(a.Letters, b.Letters, func(x, y api.Letter) bool {
		return x.UID == y.UID && x.Flags == y.Flags && bytes.Equal(x.Bytes, y.Bytes)
	})
}

// copied is a box in memory of its own, with all that stands behind its lists' ends.
func copied(b api.Box) api.Box {
	b.Letters = slices.Clone(b.Letters[:cap(b.Letters)])[:len(b.Letters)]
	for i, l := range b.Letters[:cap(b.Letters)] {
		b.Letters[:cap(b.Letters)][i].Bytes = slices.Clone(l.Bytes[:cap(l.Bytes)])[:len(l.Bytes)]
	}
	return b
}

// wrong are boxes that are not right, each with what Check says of it.
func wrong() []struct {
	b    api.Box
	want api.Errno
} {
	type bad = struct {
		b    api.Box
		want api.Errno
	}
	l := []bad{
		{api.Box{}, api.ErrArg},
		{api.Box{Valid: 1}, api.ErrArg},
		{api.Box{Next: 1}, api.ErrArg},
		{api.Box{Valid: top + 1, Next: 1}, api.ErrArg},
		{api.Box{Valid: 1, Next: top + 1}, api.ErrArg},
		{api.Box{Valid: 0, Next: 40, Letters: many(33).Letters}, api.ErrArg},
		{many(33), api.ErrFull},
		{many(40), api.ErrFull},
		{api.Box{Valid: 1, Next: 2, Letters: make([]api.Letter, 33)}, api.ErrFull},
		{of(9, letter(0, 0, "")), api.ErrForm},
		{of(9, letter(-1, 0, "")), api.ErrForm},
		{of(9, letter(9, 0, "")), api.ErrForm},
		{of(9, letter(10, 0, "")), api.ErrForm},
		{of(1, letter(1, 0, "")), api.ErrForm},
		{of(9, letter(3, 0, ""), letter(3, 0, "")), api.ErrForm},
		{of(9, letter(3, 0, ""), letter(2, 0, "")), api.ErrForm},
		{of(9, letter(3, 0, ""), letter(9, 0, "")), api.ErrForm},
		{of(9, letter(3, 32, "")), api.ErrArg},
		{of(9, letter(3, 255, "")), api.ErrArg},
		{of(9, letter(3, 0, strings.Repeat("x", 601))), api.ErrLimit},
		{of(9, letter(3, 0, strings.Repeat("x", 1<<16))), api.ErrLimit},
		// The errors' order: letter by letter, and of each the one that is named first.
		{of(9, letter(0, 32, strings.Repeat("x", 601))), api.ErrForm},
		{of(9, letter(3, 32, strings.Repeat("x", 601))), api.ErrArg},
		{of(9, letter(3, 0, strings.Repeat("x", 601)), letter(3, 32, "")), api.ErrLimit},
		{of(9, letter(3, 32, ""), letter(3, 0, strings.Repeat("x", 601))), api.ErrArg},
		{of(9, letter(4, 0, ""), letter(3, 32, ""), letter(5, 32, "")), api.ErrForm},
	}
	for _, n := range far {
		l = append(l, bad{api.Box{Valid: n, Next: 1}, api.ErrArg}, bad{api.Box{Valid: 1, Next: n}, api.ErrArg})
		if n < 0 || n >= top {
			l = append(l, bad{of(top, letter(n, 0, "")), api.ErrForm})
		}
	}
	return l
}

// right are boxes that are right.
func right() []api.Box {
	return []api.Box{
		{Valid: 1, Next: 1}, {Name: "\x00\xff", Valid: top, Next: top}, of(1), of(2, letter(1, 31, "")),
		of(top, letter(top-1, 0, "a")), of(9, letter(8, 0, strings.Repeat("x", 600))), many(1), many(31), many(32),
		{Valid: 1, Next: 9, Letters: []api.Letter{{UID: 3}, {UID: 5, Flags: 16}}},
	}
}

// P8.1, Check
func TestCheck(t *testing.T) {
	for i, c := range wrong() {
		if e := box.Check(c.b); e != c.want {
			t.Errorf("Check of the wrong box %d = %d, want %d", i, e, c.want)
		}
	}
	for i, b := range right() {
		if e := box.Check(b); e != api.OK {
			t.Errorf("Check of the right box %d = %d", i, e)
		}
	}
}

// P8.1, Size
func TestSize(t *testing.T) {
	for _, c := range []struct {
		b    api.Box
		want int
	}{
		{api.Box{}, 0}, {of(1), 0}, {of(9, letter(1, 0, "")), 0}, {of(9, letter(1, 0, "abc")), 3},
		{of(9, letter(1, 0, "abc"), letter(3, 1, ""), letter(4, 0, "\x00\xff")), 5}, {many(32), 54},
		{of(0, letter(-1, 0, strings.Repeat("x", 1<<16)), letter(-1, 0, "x")), 1<<16 + 1}, // whether it is right or not
	} {
		if n := box.Size(c.b); n != c.want {
			t.Errorf("Size = %d, want %d", n, c.want)
		}
	}
}

// P8.2: Check's error comes first, and nothing stands beside it.
func TestWrongBoxes(t *testing.T) {
	for i, c := range wrong() {
		if b, uid, e := box.Add(c.b, 32, make([]byte, 601)); !reflect.DeepEqual(b, api.Box{}) || uid != 0 || e != c.want {
			t.Errorf("Add to the wrong box %d = %d, want %d", i, e, c.want)
		}
		if b, e := box.Flag(c.b, -1, -1, 32); !reflect.DeepEqual(b, api.Box{}) || e != c.want {
			t.Errorf("Flag in the wrong box %d = %d, want %d", i, e, c.want)
		}
		if b, e := box.Cut(c.b, -1); !reflect.DeepEqual(b, api.Box{}) || e != c.want {
			t.Errorf("Cut in the wrong box %d = %d, want %d", i, e, c.want)
		}
		if l, e := box.Find(c.b, make([]api.Query, 17)); len(l) != 0 || e != c.want {
			t.Errorf("Find in the wrong box %d = %d, want %d", i, e, c.want)
		}
	}
}

// P8.2, Add
func TestAdd(t *testing.T) {
	big := strings.Repeat("x", 601)
	for i, c := range []struct {
		b     api.Box
		flags uint8
		p     string
		want  api.Errno
	}{
		{of(1), 0, "", api.OK}, {of(1), 31, "abc", api.OK}, {of(5, letter(2, 3, "x")), 16, big[1:], api.OK},
		{many(31), 0, "abc", api.OK}, {of(top - 1), 0, "abc", api.OK}, {of(top-1, letter(1, 0, "")), 0, "\x00\xff", api.OK},
		{of(1), 32, "", api.ErrArg}, {of(1), 255, "", api.ErrArg}, {of(1), 32, big, api.ErrArg}, {many(32), 33, "", api.ErrArg},
		{of(1), 0, big, api.ErrLimit}, {many(32), 0, big, api.ErrLimit}, {of(top), 0, big, api.ErrLimit},
		{many(32), 0, "", api.ErrFull}, {of(top), 0, "", api.ErrFull}, {of(top, letter(5, 0, "")), 0, "abc", api.ErrFull},
	} {
		was := copied(c.b)
		b, uid, e := box.Add(c.b, c.flags, []byte(c.p))
		if !reflect.DeepEqual(c.b, was) {
			t.Errorf("%d: Add changed the box that it was handed", i)
		}
		if e != c.want {
			t.Errorf("%d: Add = %d, want %d", i, e, c.want)
		}
		if e != api.OK {
			if !reflect.DeepEqual(b, api.Box{}) || uid != 0 {
				t.Errorf("%d: beside an error stand %v, %d", i, b, uid)
			}
			continue
		}
		was.Letters = append(was.Letters, letter(was.Next, c.flags, c.p))
		if uid != was.Next {
			t.Errorf("%d: the UID is %d, want %d", i, uid, was.Next)
		}
		if was.Next++; !alike(b, was) {
			t.Errorf("%d: Add = %v, want %v", i, b, was)
		}
	}
}

// P8.2, Flag
func TestFlag(t *testing.T) {
	three := func(flags uint8) api.Box { return of(9, letter(2, 5, "a"), letter(4, flags, "b"), letter(6, 31, "c")) }
	for _, c := range []struct {
		was        uint8
		uid, how   int
		flags, now uint8
		want       api.Errno
	}{
		{5, 4, api.Lay, 3, 3, 0}, {5, 4, api.Lay, 0, 0, 0}, {0, 4, api.Lay, 31, 31, 0},
		{5, 4, api.More, 3, 7, 0}, {5, 4, api.More, 0, 5, 0}, {5, 4, api.More, 16, 21, 0},
		{5, 4, api.Less, 3, 4, 0}, {5, 4, api.Less, 0, 5, 0}, {31, 4, api.Less, 31, 0, 0}, {5, 4, api.Less, 26, 5, 0},
		{5, 4, -1, 3, 0, api.ErrArg}, {5, 4, 3, 3, 0, api.ErrArg}, {5, 4, math.MaxInt, 3, 0, api.ErrArg}, {5, 4, math.MinInt, 3, 0, api.ErrArg},
		{5, 4, api.Lay, 32, 0, api.ErrArg}, {5, 4, api.More, 255, 0, api.ErrArg}, {5, 4, api.Less, 128, 0, api.ErrArg},
		{5, 5, api.Lay, 32, 0, api.ErrArg}, {5, 5, 7, 3, 0, api.ErrArg}, // ahead of ErrGone
		{5, 5, api.Lay, 3, 0, api.ErrGone}, {5, 0, api.More, 3, 0, api.ErrGone}, {5, 8, api.Less, 3, 0, api.ErrGone},
		{5, 9, api.Lay, 3, 0, api.ErrGone}, {5, math.MaxInt, api.Lay, 3, 0, api.ErrGone}, {5, math.MinInt, api.Lay, 3, 0, api.ErrGone},
	} {
		handed := three(c.was)
		b, e := box.Flag(handed, c.uid, c.how, c.flags)
		if !reflect.DeepEqual(handed, three(c.was)) {
			t.Errorf("%v: Flag changed the box that it was handed", c)
		}
		if e != c.want || e == api.OK && !alike(b, three(c.now)) || e != api.OK && !reflect.DeepEqual(b, api.Box{}) {
			t.Errorf("%v: Flag = %v, %d", c, b, e)
		}
	}
	if _, e := box.Flag(of(9), 1, api.Lay, 0); e != api.ErrGone {
		t.Errorf("Flag in a box without letters = %d", e)
	}
}

// P8.2, Cut
func TestCut(t *testing.T) {
	a, b, c := letter(2, 5, "a"), letter(4, 7, "b"), letter(6, 31, "c")
	for _, x := range []struct {
		uid  int
		want api.Errno
		now  []api.Letter
	}{
		{2, api.OK, []api.Letter{b, c}}, {4, api.OK, []api.Letter{a, c}}, {6, api.OK, []api.Letter{a, b}},
		{1, api.ErrGone, nil}, {3, api.ErrGone, nil}, {9, api.ErrGone, nil}, {0, api.ErrGone, nil}, {8, api.ErrGone, nil},
		{math.MaxInt, api.ErrGone, nil}, {math.MinInt, api.ErrGone, nil},
	} {
		handed := of(9, a, b, c)
		got, e := box.Cut(handed, x.uid)
		if !reflect.DeepEqual(handed, of(9, a, b, c)) {
			t.Errorf("Cut(%d) changed the box that it was handed", x.uid)
		}
		if e != x.want || e == api.OK && !alike(got, of(9, x.now...)) || e != api.OK && !reflect.DeepEqual(got, api.Box{}) {
			t.Errorf("Cut(%d) = %v, %d", x.uid, got, e)
		}
	}
	if got, e := box.Cut(of(9, c), 6); e != api.OK || !alike(got, of(9)) {
		t.Errorf("Cut of the only one = %v, %d", got, e)
	}
}

// set holds Set to what it is to tell.
func set(t *testing.T, s string, most, place int, want api.Errno, ranges ...[2]int) {
	t.Helper()
	l, n, e := box.Set(s, most)
	if e != want || n != place || !slices.Equal(l, ranges) {
		t.Errorf("Set(%.40q, %d) = %v, %d, %d, want %v, %d, %d", s, most, l, n, e, ranges, place, want)
	}
}

// P8.3, Set: what is a set.
func TestSet(t *testing.T) {
	type r = [2]int
	set(t, "5:3,*", 9, 0, api.OK, r{3, 5}, r{9, 9}) // Example 1
	set(t, "1:x", 9, 2, api.ErrForm)                // Example 2
	set(t, "1", 0, 0, api.OK, r{1, 1})
	set(t, "1", 9, 0, api.OK, r{1, 1})
	set(t, "17", 9, 0, api.OK, r{17, 17}) // above the most
	set(t, "*", 1, 0, api.OK, r{1, 1})
	set(t, "*", top, 0, api.OK, r{top, top})
	set(t, "4294967295", 0, 0, api.OK, r{top, top})
	set(t, "4294967295:4294967294,4294967295", 0, 0, api.OK, r{top - 1, top})
	set(t, "1:4294967295", 0, 0, api.OK, r{1, top})
	set(t, "*:*", 9, 0, api.OK, r{9, 9})
	set(t, "*:4", 9, 0, api.OK, r{4, 9})
	set(t, "4:*", 9, 0, api.OK, r{4, 9})
	set(t, "*:40", 9, 0, api.OK, r{9, 40})
	set(t, "40:*", 9, 0, api.OK, r{9, 40})
	set(t, "7,7,7:7", 9, 0, api.OK, r{7, 7})
	set(t, "1,3,5", 9, 0, api.OK, r{1, 1}, r{3, 3}, r{5, 5})
	set(t, "5,3,1", 9, 0, api.OK, r{1, 1}, r{3, 3}, r{5, 5})
	set(t, "1,2", 9, 0, api.OK, r{1, 2})
	set(t, "2,1", 9, 0, api.OK, r{1, 2})
	set(t, "1:3,4:6", 9, 0, api.OK, r{1, 6})
	set(t, "1:3,5:6", 9, 0, api.OK, r{1, 3}, r{5, 6})
	set(t, "1:3,5:6,4", 9, 0, api.OK, r{1, 6})
	set(t, "1:9,2:3,5", 9, 0, api.OK, r{1, 9})
	set(t, "2:3,1:9,12", 9, 0, api.OK, r{1, 9}, r{12, 12})
	set(t, "1:9,3:12", 9, 0, api.OK, r{1, 12})
	set(t, "10:20,1:12", 9, 0, api.OK, r{1, 20})
}

// P8.3, Set: what is none, and where it is that.
func TestNoSet(t *testing.T) {
	for _, most := range append([]int{top + 1}, far...) {
		set(t, "1", most, 0, api.ErrArg)
		set(t, "", most, 0, api.ErrArg) // ahead of all others
		set(t, "x", most, 0, api.ErrArg)
	}
	for _, c := range []struct {
		s  string
		at int
	}{
		{"x", 0}, {",", 0}, {":", 0}, {"0", 0}, {"01", 0}, {" 1", 0}, {"-1", 0}, {"+1", 0}, {"\x00", 0}, {"\xff", 0}, {"ä", 0},
		{"1 ", 1}, {"1x", 1}, {"1-2", 1}, {"1*", 1}, {"10*", 2}, {"**", 1}, {"*1", 1}, {"*0", 1}, {"1,,2", 2}, {"1,:2", 2}, {"1::2", 2}, {"1:,2", 2},
		{"1:2:3", 3}, {"1:*:3", 3}, {"*:2:3", 3}, {"*:*:", 3}, {"1:2*", 3}, {"1:*2", 3}, {"1,0", 2}, {"1:0", 2}, {"1:02", 2}, {"1,2,0x", 4}, {"*,0", 2},
		{"4294967296", 9}, {"4294967300", 9}, {"42949672950", 10}, {"99999999999999999999999", 9}, {"1:4294967296", 11}, {"1,4294967296,x", 11},
		{"10000000000", 10}, {"1ä", 1}, {"1,\xff", 2}, {"1\x00", 1}, {"1/2", 1}, {"1;2", 1}, {"1.", 1}, {"/", 0}, {";", 0}, {"1\n", 1}, {"", -1},
		{strings.Repeat("1,", 40) + "x", 80}, {"*x", 1},
	} {
		if c.at >= 0 {
			set(t, c.s, 9, c.at, api.ErrForm)
			set(t, c.s, 0, c.at, api.ErrForm) // ahead of ErrArg, where it has a *
		}
	}
	for _, s := range []string{"", "1,", "1:", "1:2,", "*,", "*:", "1:2,3:", "12,34,", strings.Repeat("1,", 40), "4294967295:"} {
		set(t, s, 9, len(s), api.ErrShort)
		set(t, s, 0, len(s), api.ErrShort)
	}
	ones := strings.Repeat("1,", 31)
	set(t, ones+"1", 0, 0, api.OK, [2]int{1, 1})
	set(t, ones+"*:3", 9, 0, api.OK, [2]int{1, 1}, [2]int{3, 9})
	set(t, ones+"1,1", 9, 0, api.ErrLimit)
	set(t, ones+"1,*", 0, 0, api.ErrLimit) // ahead of ErrArg
	set(t, strings.Repeat("1:2,", 1<<12)+"3", 9, 0, api.ErrLimit)
	set(t, "*", 0, 0, api.ErrArg)
	set(t, "1,2:*", 0, 0, api.ErrArg)
	set(t, "*:1,2", 0, 0, api.ErrArg)
	set(t, ones+"*", 0, 0, api.ErrArg)
}

// P8.3, In
func TestIn(t *testing.T) {
	l := [][2]int{{3, 5}, {9, 9}, {20, top}}
	for _, n := range []int{3, 4, 5, 9, 20, 21, top} {
		if !box.In(l, n) {
			t.Errorf("%d is not in", n)
		}
	}
	for _, n := range append([]int{0, 1, 2, 6, 8, 10, 19, top + 1}, far...) {
		if box.In(l, n) || box.In(nil, n) {
			t.Errorf("%d is in", n)
		}
	}
	if !box.In([][2]int{{9, 9}, {1, 2}}, 2) || box.In([][2]int{{2, 1}}, 1) || !box.In([][2]int{{math.MinInt, math.MaxInt}}, 0) {
		t.Error("In of ranges that no call made")
	}
}

// P8.7: of a set's ranges no two touch; a number lies in them just if it lies in a part.
func TestSetModel(t *testing.T) {
	r := rand.New(rand.NewSource(87))
	for range 20000 {
		most := 1 + r.Intn(30)
		in := map[int]bool{}
		parts := []string{}
		number := func() (string, int) {
			if r.Intn(6) == 0 {
				return "*", most
			}
			n := 1 + r.Intn(40)
			return strconv.Itoa(n), n
		}
		for range 1 + r.Intn(8) {
			s, a := number()
			b := a
			if r.Intn(2) == 0 {
				other := ""
				other, b = number()
				s += ":" + other
			}
			parts = append(parts, s)
			for n := min(a, b); n <= max(a, b); n++ {
				in[n] = true
			}
		}
		s := strings.Join(parts, ",")
		l, place, e := box.Set(s, most)
		if place != 0 || e != api.OK {
			t.Fatalf("Set(%q) = %d, %d", s, place, e)
		}
		for i, x := range l {
			if x[0] > x[1] || i > 0 && x[0] < l[i-1][1]+2 {
				t.Fatalf("Set(%q, %d) = %v", s, most, l)
			}
		}
		for n := range 60 {
			if box.In(l, n) != in[n] {
				t.Fatalf("Set(%q, %d) = %v, In %d is %v", s, most, l, n, !in[n])
			}
		}
	}
}

// P8.4, Find
func TestFind(t *testing.T) {
	b := of(20, letter(2, 5, "From: Bob\r\n\r\nhello"), letter(4, 0, ""), letter(6, 31, "FROM: bob"), letter(9, 1, "\xc4\xff\x00x"))
	q := func(l ...api.Query) []api.Query { return l }
	for i, c := range []struct {
		q    []api.Query
		want []int
	}{
		{nil, []int{2, 4, 6, 9}},
		{q(api.Query{Ask: api.All}), []int{2, 4, 6, 9}},
		{q(api.Query{Ask: api.All, Flags: 255, N: -1, M: -1, Text: "zz"}), []int{2, 4, 6, 9}},
		{q(api.Query{Ask: api.Has}), []int{2, 4, 6, 9}},
		{q(api.Query{Ask: api.Has, Flags: 1}), []int{2, 6, 9}},
		{q(api.Query{Ask: api.Has, Flags: 5}), []int{2, 6}},
		{q(api.Query{Ask: api.Has, Flags: 7}), []int{6}},
		{q(api.Query{Ask: api.Has, Flags: 32}), nil},
		{q(api.Query{Ask: api.Has, Flags: 33}), nil},
		{q(api.Query{Ask: api.Lacks}), []int{2, 4, 6, 9}},
		{q(api.Query{Ask: api.Lacks, Flags: 1}), []int{4}},
		{q(api.Query{Ask: api.Lacks, Flags: 6}), []int{4, 9}},
		{q(api.Query{Ask: api.Lacks, Flags: 224}), []int{2, 4, 6, 9}},
		{q(api.Query{Ask: api.Larger}), []int{2, 6, 9}},
		{q(api.Query{Ask: api.Larger, N: 4}), []int{2, 6}},
		{q(api.Query{Ask: api.Larger, N: 8}), []int{2, 6}},
		{q(api.Query{Ask: api.Larger, N: 9}), []int{2}},
		{q(api.Query{Ask: api.Larger, N: -1}), []int{2, 4, 6, 9}},
		{q(api.Query{Ask: api.Larger, N: math.MaxInt}), nil},
		{q(api.Query{Ask: api.Larger, N: math.MinInt}), []int{2, 4, 6, 9}},
		{q(api.Query{Ask: api.Smaller}), nil},
		{q(api.Query{Ask: api.Smaller, N: 1}), []int{4}},
		{q(api.Query{Ask: api.Smaller, N: 4}), []int{4}},
		{q(api.Query{Ask: api.Smaller, N: 5}), []int{4, 9}},
		{q(api.Query{Ask: api.Smaller, N: math.MaxInt}), []int{2, 4, 6, 9}},
		{q(api.Query{Ask: api.Smaller, N: math.MinInt}), nil},
		{q(api.Query{Ask: api.Holds}), []int{2, 4, 6, 9}},
		{q(api.Query{Ask: api.Holds, Text: "from: BOB"}), []int{2, 6}},
		{q(api.Query{Ask: api.Holds, Text: "From: bob\r"}), []int{2}},
		{q(api.Query{Ask: api.Holds, Text: "\x00X"}), []int{9}},
		{q(api.Query{Ask: api.Holds, Text: "\xc4"}), []int{9}},
		{q(api.Query{Ask: api.Holds, Text: "\xe4"}), nil}, // great and small are letters of A to Z alone
		{q(api.Query{Ask: api.Holds, Text: "\ufffd"}), nil},
		{q(api.Query{Ask: api.Numbers}), nil},
		{q(api.Query{Ask: api.Numbers, N: 4, M: 6}), []int{4, 6}},
		{q(api.Query{Ask: api.Numbers, N: 5, M: 5}), nil},
		{q(api.Query{Ask: api.Numbers, N: 9, M: 4}), nil},
		{q(api.Query{Ask: api.Numbers, N: math.MinInt, M: math.MaxInt}), []int{2, 4, 6, 9}},
		{q(api.Query{Ask: api.Has, Flags: 1}, api.Query{Ask: api.Larger, N: 8}), []int{2, 6}},
		{q(api.Query{Ask: api.Has, Flags: 1}, api.Query{Ask: api.Larger, N: 9}, api.Query{Ask: api.Numbers, N: 2, M: 2}), []int{2}},
		{q(api.Query{Ask: api.Has, Flags: 1}, api.Query{Ask: api.Lacks, Flags: 1}), nil},
		{append(slices.Repeat(q(api.Query{Ask: api.All}), 15), api.Query{Ask: api.Lacks, Flags: 1}), []int{4}},
	} {
		was := copied(b)
		asked := slices.Clone(c.q)
		got, e := box.Find(b, c.q)
		if !slices.Equal(got, c.want) || e != api.OK {
			t.Errorf("%d: Find = %v, %d, want %v", i, got, e, c.want)
		}
		if !reflect.DeepEqual(b, was) || !slices.Equal(asked, c.q) {
			t.Errorf("%d: Find changed what it was handed", i)
		}
	}
	for _, c := range []struct {
		q    []api.Query
		want api.Errno
	}{
		{make([]api.Query, 17), api.ErrLimit}, {make([]api.Query, 1<<12), api.ErrLimit},
		{slices.Repeat(q(api.Query{Ask: api.All}), 17), api.ErrLimit},
		{make([]api.Query, 16), api.ErrType}, {make([]api.Query, 1), api.ErrType},
		{q(api.Query{Ask: api.Numbers + 1}), api.ErrType}, {q(api.Query{Ask: -1}), api.ErrType},
		{q(api.Query{Ask: math.MaxInt}), api.ErrType}, {q(api.Query{Ask: math.MinInt}), api.ErrType},
		{q(api.Query{Ask: api.Has, Flags: 255}, api.Query{}), api.ErrType}, // though none is true of the first one
	} {
		if got, e := box.Find(b, c.q); len(got) != 0 || e != c.want {
			t.Errorf("Find = %v, %d, want %d", got, e, c.want)
		}
		if got, e := box.Find(of(1), c.q); len(got) != 0 || e != c.want {
			t.Errorf("Find without letters = %v, %d, want %d", got, e, c.want)
		}
	}
}

// P3: what is handed in stays and is not kept, what is answered is new.
func TestMemory(t *testing.T) {
	letters := append(make([]api.Letter, 0, 8), letter(1, 0, "a"), letter(2, 1, "b"), letter(3, 2, "c"))
	letters[0].Bytes = append(make([]byte, 0, 8), "a"...)
	handed := of(9, letters...)
	handed.Letters = letters
	was := copied(handed)
	p := append(make([]byte, 0, 8), "new"...)
	added, _, _ := box.Add(handed, 0, p)
	flagged, _ := box.Flag(handed, 2, api.Lay, 31)
	less, _ := box.Cut(handed, 1)
	if !reflect.DeepEqual(handed.Letters[:8], was.Letters[:8]) || string(p[:8]) != "new\x00\x00\x00\x00\x00" {
		t.Error("what was handed in changed")
	}
	p[0] = 'x'
	for _, b := range []api.Box{handed, added, flagged, less} {
		for i := range b.Letters {
			others := []api.Box{copied(handed), copied(added), copied(flagged), copied(less)}
			x := &b.Letters[i]
			old := *x
			x.UID, x.Flags = 99, 99
			if len(x.Bytes) > 0 {
				x.Bytes[0] ^= 0x80
			}
			changed := 0
			for j, o := range []api.Box{handed, added, flagged, less} {
				if !reflect.DeepEqual(o, others[j]) {
					changed++
				}
			}
			if changed != 1 {
				t.Errorf("%d boxes changed with one", changed)
			}
			x.UID, x.Flags = old.UID, old.Flags
			if len(x.Bytes) > 0 {
				x.Bytes[0] ^= 0x80
			}
		}
	}
	if string(added.Letters[3].Bytes) != "new" {
		t.Error("Add kept what it was handed")
	}
}

// P8.2, P8.5, P8.6 (M3): a box against a model of it.
func TestModel(t *testing.T) {
	r := rand.New(rand.NewSource(85))
	for range 300 {
		b, want := of(1), of(1)
		if r.Intn(4) == 0 {
			b.Next, want.Next = top-20, top-20
		}
		ever := 0
		for range 120 {
			uid := want.Next - r.Intn(12)
			at := slices.IndexFunc(want.Letters, func(l api.Letter) bool { return l.UID == uid })
			flags, how := uint8(r.Intn(32)), r.Intn(3)
			now, e := b, api.OK
			switch r.Intn(4) {
			case 0, 1:
				p := make([]byte, r.Intn(20))
				r.Read(p)
				var got int
				if now, got, e = box.Add(b, flags, p); e == api.OK {
					if got <= ever {
						t.Fatalf("the UID %d behind %d", got, ever)
					}
					ever = got
					want.Letters = append(want.Letters, letter(want.Next, flags, string(p)))
					want.Next++
				} else if e != api.ErrFull || len(want.Letters) < 32 && want.Next < top {
					t.Fatalf("Add = %d", e)
				}
			case 2:
				now, e = box.Flag(b, uid, how, flags)
				if (e == api.OK) != (at >= 0) {
					t.Fatalf("Flag = %d", e)
				}
				if e == api.OK {
					for bit := uint8(1); bit < 32; bit *= 2 {
						f := &want.Letters[at].Flags
						if on := flags&bit > 0; on && how != api.Less {
							*f |= bit
						} else if on || how == api.Lay {
							*f &^= bit
						}
					}
					again, _ := box.Flag(now, uid, how, flags)
					more, _ := box.Flag(now, uid, api.More, flags)
					less, _ := box.Flag(more, uid, api.Less, flags)
					if !alike(again, now) || less.Letters[at].Flags != now.Letters[at].Flags&^flags {
						t.Fatal("flags that are laid twice, or more and then less")
					}
				}
			case 3:
				now, e = box.Cut(b, uid)
				if (e == api.OK) != (at >= 0) {
					t.Fatalf("Cut = %d", e)
				}
				if e == api.OK {
					want.Letters = slices.Delete(want.Letters, at, at+1)
				}
			}
			if e == api.OK {
				b = now
			}
			if !alike(b, want) || box.Check(b) != api.OK {
				t.Fatalf("the box is %v, want %v", b, want)
			}
		}
	}
}
