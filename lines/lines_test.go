package lines_test

import (
	"bytes"
	"math"
	"math/rand"
	"strings"
	"testing"

	"pigeonhole/api"
	"pigeonhole/lines"
)

// odd are bytes in which points and the halves of line ends stand where they are easily mistaken.
var odd = []string{
	"", ".", "..", "...", "\r", "\n", "\r\n", "\n\r", "\r\r\n", "\r\n\r\n", ".\r", ".\n", ".\r\n", "..\r\n", ".\r\r\n", ".\n\r\n",
	"a", "a\r", "a\n", "a\r\n", ".a", ".a\r\n", "a.", "a.\r\n", "a\r\n.", "a\r\n.\r", "a\r\n.\r\n", "a\r\n..\r\n", "a\r\n.\r\nb",
	"a\n.\n", "a\n.\r\n", "a\r.\r\n", "\r\n.", "\r\n.\r\n", ".\r\n.\r\n", "..\r\n.\r\n", "a\r\nb\r\n..c\r\n", "\x00\xff\r\n.\xff",
	"\r.\n", ". \r\n", " .\r\n", ".\r\na", "\r\r", "\r\r\n.\r\n", "\n.\r\n", "ä\r\n.ö\r\nü",
}

// some is random bytes of those that matter, the same in each run of the tests.
func some(r *rand.Rand, n int) []byte {
	p := []byte{}
	for range r.Intn(n + 1) {
		p = append(p, []string{"\r\n", "\r\n", ".", ".", "\r", "\n", "a", "\xff"}[r.Intn(8)]...)
	}
	return p
}

// fed is a buffer in which s waits.
func fed(t *testing.T, s string) *lines.Buf {
	t.Helper()
	b := lines.New()
	if b == nil || b.Feed([]byte(s)) != api.OK || b.Wait() != len(s) {
		t.Fatalf("%.30q is not fed", s)
	}
	return b
}

// left takes all that waits.
func left(b *lines.Buf) string {
	p, _ := b.Raw(b.Wait())
	return string(p)
}

// P2.1
func TestFeed(t *testing.T) {
	b := lines.New()
	if b.Wait() != 0 {
		t.Fatal("bytes wait in a new one")
	}
	for i, s := range []string{"ab", "", "c\r\n", "\x00\xff"} {
		if e := b.Feed([]byte(s)); e != api.OK {
			t.Fatal(i, e)
		}
	}
	if b.Feed(nil) != api.OK || b.Wait() != 7 || left(b) != "abc\r\n\x00\xff" || b.Wait() != 0 {
		t.Fatal("what is fed does not stand behind what waits")
	}
}

// P2.1: what is too much is not taken at all.
func TestFeedFull(t *testing.T) {
	b := lines.New()
	if e := b.Feed(make([]byte, 16385)); e != api.ErrFull || b.Wait() != 0 {
		t.Fatal("more than all", e, b.Wait())
	}
	if e := b.Feed(bytes.Repeat([]byte("x"), 16383)); e != api.OK {
		t.Fatal(e)
	}
	if e := b.Feed([]byte("ab")); e != api.ErrFull || b.Wait() != 16383 {
		t.Fatal("one too many", e, b.Wait())
	}
	if e := b.Feed([]byte("y")); e != api.OK || b.Wait() != 16384 {
		t.Fatal("the last one", e, b.Wait())
	}
	if b.Feed([]byte("z")) != api.ErrFull || b.Feed(nil) != api.OK || b.Feed([]byte{}) != api.OK || b.Wait() != 16384 {
		t.Fatal("a full one")
	}
	if p, e := b.Raw(2); e != api.OK || string(p) != "xx" {
		t.Fatal(p, e)
	}
	if b.Feed([]byte("abc")) != api.ErrFull || b.Feed([]byte("ab")) != api.OK {
		t.Fatal("what is taken makes room")
	}
	if s := left(b); s != strings.Repeat("x", 16381)+"yab" {
		t.Fatal("other bytes wait than were fed")
	}
}

// P2.2, Line
func TestLine(t *testing.T) {
	for s, want := range map[string][2]string{ // what is told, what is left
		"\r\n":                              {"", ""},
		"a\r\n":                             {"a", ""},
		"a\r\nb":                            {"a", "b"},
		"a\r\nb\r\n":                        {"a", "b\r\n"},
		"\r\n\r\n":                          {"", "\r\n"},
		"a\rb\nc\r\nd":                      {"a\rb\nc", "d"},
		"a\r\r\nb":                          {"a\r", "b"},
		"\n\r\n\n":                          {"\n", "\n"},
		".\r\n.":                            {".", "."},
		" a \r\n ":                          {" a ", " "},
		"\x00\xff\r\n":                      {"\x00\xff", ""},
		"ä\u2028\u0085\r\n":                 {"ä\u2028\u0085", ""},
		strings.Repeat("a", 1024) + "\r\nb": {strings.Repeat("a", 1024), "b"},
		strings.Repeat("a", 1022) + "\r\r\n" + "\r\n":       {strings.Repeat("a", 1022) + "\r", "\r\n"},
		strings.Repeat("ä", 512) + "\r\n" + "\r\r\n\n":      {strings.Repeat("ä", 512), "\r\r\n\n"},
		"b\r\n" + strings.Repeat("a", 16000):                {"b", strings.Repeat("a", 16000)},
		"b\r\n" + strings.Repeat("a", 2000) + "\r\n" + "\n": {"b", strings.Repeat("a", 2000) + "\r\n\n"},
	} {
		b := fed(t, s)
		if line, e := b.Line(); line != want[0] || e != api.OK {
			t.Errorf("Line of %.30q = %.30q, %d", s, line, e)
		}
		if rest := left(b); rest != want[1] {
			t.Errorf("behind Line of %.30q waits %.30q", s, rest)
		}
	}
}

// P2.2, Line: of a line that is too long nothing is told, but it is taken.
func TestLineFaults(t *testing.T) {
	for _, s := range []string{"", "a", "\r", "\n", "a\r", "a\n", "\n\r", "a\n\rb", "\r\r", strings.Repeat("a", 1025), strings.Repeat("\r", 16384)} {
		b := fed(t, s)
		if line, e := b.Line(); line != "" || e != api.ErrShort {
			t.Errorf("Line of %.30q = %.30q, %d", s, line, e)
		}
		if left(b) != s {
			t.Errorf("Line takes something of %.30q", s)
		}
	}
	for _, long := range []string{strings.Repeat("a", 1025), strings.Repeat("ä", 512) + "\r", strings.Repeat("\n", 16377)} {
		b := fed(t, long+"\r\nnext\r")
		if line, e := b.Line(); line != "" || e != api.ErrLimit {
			t.Errorf("a long line: %.30q, %d", line, e)
		}
		if line, e := b.Line(); line != "" || e != api.ErrShort {
			t.Errorf("behind a long line: %.30q, %d", line, e)
		}
		if b.Wait() != 5 || b.Feed([]byte("\n")) != api.OK {
			t.Error("a long line is not taken", b.Wait())
		}
		if line, e := b.Line(); line != "next" || e != api.OK || b.Wait() != 0 {
			t.Errorf("the next line: %.30q, %d", line, e)
		}
	}
}

// P2.2, Raw
func TestRaw(t *testing.T) {
	b := fed(t, "ab\r\nc")
	for _, n := range []int{-1, -5, math.MinInt} {
		if p, e := b.Raw(n); len(p) != 0 || e != api.ErrArg {
			t.Errorf("Raw(%d) = %q, %d", n, p, e)
		}
	}
	for _, n := range []int{6, 7, 1 << 40, math.MaxInt} {
		if p, e := b.Raw(n); len(p) != 0 || e != api.ErrShort {
			t.Errorf("Raw(%d) = %q, %d", n, p, e)
		}
	}
	if b.Wait() != 5 {
		t.Fatal("what was refused took something")
	}
	for i, want := range []string{"", "a", "b\r", "", "\nc", ""} {
		if p, e := b.Raw(len(want)); string(p) != want || e != api.OK {
			t.Errorf("%d: Raw(%d) = %q, %d", i, len(want), p, e)
		}
	}
	if p, e := b.Raw(1); len(p) != 0 || e != api.ErrShort {
		t.Error("of none", p, e)
	}
	if p, e := b.Raw(-1); len(p) != 0 || e != api.ErrArg {
		t.Error("of none", p, e)
	}
}

// dotted are dotted bodies, and their bodies.
var dotted = map[string]string{
	".\r\n":                                  "",
	"\r\n.\r\n":                              "\r\n",
	"a\r\n.\r\n":                             "a\r\n",
	"..\r\n.\r\n":                            ".\r\n",
	"..a\r\n.\r\n":                           ".a\r\n",
	".a\r\n.\r\n":                            "a\r\n",
	"...\r\n.\r\n":                           "..\r\n",
	"a\r\n..\r\n..b\r\n.\r\n":                "a\r\n.\r\n.b\r\n",
	"a.\r\nb..c\r\n.\r\n":                    "a.\r\nb..c\r\n",
	".\r\r\n.\r\n":                           "\r\r\n",
	".\n.\r\n.\r\n":                          "\n.\r\n",
	". \r\n.\r\n":                            " \r\n",
	" .\r\n.\r\n":                            " .\r\n",
	"a\n.\n\r\n.\r\n":                        "a\n.\n\r\n",
	"a\n.\r\n.\r\n":                          "a\n.\r\n",
	"a\r.\r\n.\r\n":                          "a\r.\r\n",
	"\r\r\n.\r\n":                            "\r\r\n",
	"\x00\xff\r\n.\xff\r\n.\r\n":             "\x00\xff\r\n\xff\r\n",
	strings.Repeat("a", 5000) + "\r\n.\r\n":  strings.Repeat("a", 5000) + "\r\n", // no line is too long
	strings.Repeat("..\r\n", 3000) + ".\r\n": strings.Repeat(".\r\n", 3000),
	strings.Repeat("\r\n", 8000) + ".\r\n":   strings.Repeat("\r\n", 8000),
	"." + strings.Repeat(".", 9) + "\r\n.\r\n": strings.Repeat(".", 9) + "\r\n",
}

// open are bytes that begin with no dotted body.
var open = []string{
	"", ".", ".\r", ".\n", ".\n\r", "\r\n", "a", "a\r\n", "a\r\n.", "a\r\n.\r", "a\r\n.\n", "a\n.\n", "a\n.\r\n", "a\r.\r\n", "a.\r\n",
	"..\r\n", ". \r\n", " .\r\n", ".\r\r\n", ".a\r\n", "\n.\r\n", "\r.\r\n", "a\r\n..\r\n", "a\r\n.b\r\n", strings.Repeat(".", 16384),
}

// P2.2, Body
func TestBody(t *testing.T) {
	for s, want := range dotted {
		for _, behind := range []string{"", "x", ".\r\n", "\r\n.\r\n", "a\r\n.\r\n"} {
			b := fed(t, s+behind)
			if p, e := b.Body(); string(p) != want || e != api.OK {
				t.Errorf("Body of %.30q = %.30q, %d", s+behind, p, e)
			}
			if rest := left(b); rest != behind {
				t.Errorf("behind Body of %.30q waits %.30q", s, rest)
			}
		}
	}
	for _, s := range open {
		b := fed(t, s)
		if p, e := b.Body(); len(p) != 0 || e != api.ErrShort {
			t.Errorf("Body of %.30q = %.30q, %d", s, p, e)
		}
		if left(b) != s {
			t.Errorf("Body takes something of %.30q", s)
		}
	}
}

// P2.2: the beginning is that of what waits, whatever was taken ahead of it.
func TestBodyBehindLines(t *testing.T) {
	b := fed(t, "data\r\n..a\r\n.\r\nx.\r\n.\r\n")
	if s, e := b.Line(); s != "data" || e != api.OK {
		t.Fatal(s, e)
	}
	if p, e := b.Body(); string(p) != ".a\r\n" || e != api.OK {
		t.Fatal(p, e)
	}
	if p, e := b.Raw(1); string(p) != "x" || e != api.OK {
		t.Fatal(p, e)
	}
	if p, e := b.Body(); len(p) != 0 || e != api.OK || left(b) != ".\r\n" {
		t.Fatal(p, e)
	}
}

// P2.3, Stuff
func TestStuff(t *testing.T) {
	for s, want := range map[string]string{
		"":                  ".\r\n",
		"a":                 "a\r\n.\r\n",
		"a\r\n":             "a\r\n.\r\n",
		"\r\n":              "\r\n.\r\n",
		"a\r\n\r\n":         "a\r\n\r\n.\r\n",
		".":                 "..\r\n.\r\n",
		".a":                "..a\r\n.\r\n",
		"..":                "...\r\n.\r\n",
		".\r\n":             "..\r\n.\r\n",
		".\r\n.\r\n":        "..\r\n..\r\n.\r\n",
		"a\r\n.b":           "a\r\n..b\r\n.\r\n",
		"a\r\n.":            "a\r\n..\r\n.\r\n",
		"a.\r\nb.c":         "a.\r\nb.c\r\n.\r\n",
		"a\n.b":             "a\n.b\r\n.\r\n", // no line begins behind a half of a line's end
		"a\r.b":             "a\r.b\r\n.\r\n",
		"a\n":               "a\n\r\n.\r\n",
		"a\r":               "a\r\r\n.\r\n",
		"\r":                "\r\r\n.\r\n",
		"\n":                "\n\r\n.\r\n",
		"\n\r":              "\n\r\r\n.\r\n",
		"\r\r\n.":           "\r\r\n..\r\n.\r\n",
		" .":                " .\r\n.\r\n",
		"\x00\xff\r\n.\xff": "\x00\xff\r\n..\xff\r\n.\r\n",
	} {
		if got := lines.Stuff([]byte(s)); string(got) != want {
			t.Errorf("Stuff(%q) = %q", s, got)
		}
	}
	if got := lines.Stuff(nil); string(got) != ".\r\n" {
		t.Errorf("Stuff of nil = %q", got)
	}
}

// P2.3, Unstuff
func TestUnstuff(t *testing.T) {
	for s, want := range dotted {
		for _, behind := range []string{"", "x", "\r\n", ".\r\n", "\r\n.\r\n"} {
			if p, n, e := lines.Unstuff([]byte(s + behind)); string(p) != want || n != len(s) || e != api.OK {
				t.Errorf("Unstuff(%.30q) = %.30q, %d, %d", s+behind, p, n, e)
			}
		}
	}
	for _, s := range open {
		if p, n, e := lines.Unstuff([]byte(s)); len(p) != 0 || n != 0 || e != api.ErrShort {
			t.Errorf("Unstuff(%.30q) = %.30q, %d, %d", s, p, n, e)
		}
	}
	if p, n, e := lines.Unstuff(nil); len(p) != 0 || n != 0 || e != api.ErrShort {
		t.Errorf("Unstuff of nil = %q, %d, %d", p, n, e)
	}
}

// P2.5
func TestStuffFollows(t *testing.T) {
	r := rand.New(rand.NewSource(25))
	bodies := [][]byte{nil, bytes.Repeat([]byte(".\r\n"), 100000), bytes.Repeat([]byte("a"), 1<<20)}
	for _, s := range odd {
		bodies = append(bodies, []byte(s))
	}
	for range 2000 {
		bodies = append(bodies, some(r, 12))
	}
	for _, p := range bodies {
		want := string(p)
		if want != "" && !strings.HasSuffix(want, "\r\n") {
			want += "\r\n"
		}
		d := lines.Stuff(p)
		for _, behind := range []string{"", ".", "\n", "\r\n", ".\r\n", "a\r\n.\r\n"} {
			if got, n, e := lines.Unstuff(append(bytes.Clone(d), behind...)); string(got) != want || n != len(d) || e != api.OK {
				t.Errorf("Unstuff of Stuff(%.30q) = %.30q, %d, %d", p, got, n, e)
			}
		}
		if got, n, e := lines.Unstuff(d[:len(d)-1]); len(got) != 0 || n != 0 || e != api.ErrShort {
			t.Errorf("Unstuff of Stuff(%.30q) without its end = %.30q, %d, %d", p, got, n, e)
		}
	}
}

// P2.4: a buffer that is fed in pieces tells what one tells that is fed at once.
func TestPieces(t *testing.T) {
	r := rand.New(rand.NewSource(24))
	for range 2000 {
		all := some(r, 30)
		whole, pieces := fed(t, string(all)), lines.New()
		how := r.Intn(3)
		for at := 0; at <= len(all); {
			n := min(1+r.Intn(4), len(all)-at)
			if pieces.Feed(all[at:at+n]) != api.OK {
				t.Fatal("not fed")
			}
			at += n
			for take(t, pieces, whole, how) {
				how = r.Intn(3)
			}
			if n == 0 {
				break
			}
		}
		for take(t, pieces, whole, how) {
			how = r.Intn(3)
		}
		if pieces.Wait() != whole.Wait() || left(pieces) != left(whole) {
			t.Fatalf("of %q in pieces other bytes are left", all)
		}
	}
}

// take takes something out of the one that is fed in pieces, if it is there by now, and the same out of the other one.
func take(t *testing.T, pieces, whole *lines.Buf, how int) bool {
	t.Helper()
	a, d := out(pieces, how)
	if d == api.ErrShort {
		return false
	}
	if b, e := out(whole, how); d != e || a != b {
		t.Fatalf("in pieces: %q, %d; at once: %q, %d", a, d, b, e)
	}
	return true
}

// out takes a line, a body, or three bytes.
func out(b *lines.Buf, how int) (string, api.Errno) {
	switch how {
	case 0:
		return b.Line()
	case 1:
		p, e := b.Body()
		return string(p), e
	}
	p, e := b.Raw(3)
	return string(p), e
}

// P2.6, and P2: nothing is lost, doubled or turned round, and what is refused takes nothing.
func TestNothingIsLost(t *testing.T) {
	r := rand.New(rand.NewSource(26))
	for range 300 {
		b, all, taken := lines.New(), []byte{}, 0
		for range 60 {
			before := b.Wait()
			p := some(r, 8)
			switch r.Intn(5) {
			case 0, 1:
				if b.Feed(p) != api.OK {
					t.Fatal("not fed")
				}
				all = append(all, p...)
				if b.Wait() != before+len(p) {
					t.Fatal("other bytes wait")
				}
				continue
			case 2:
				s, e := b.Line()
				if e == api.OK && !bytes.HasPrefix(all[taken:], []byte(s+"\r\n")) || e == api.OK && before-b.Wait() != len(s)+2 {
					t.Fatalf("Line: %q out of %q", s, all[taken:])
				}
			case 3:
				p, e := b.Body()
				want, n, u := lines.Unstuff(all[taken:])
				if e != u || !bytes.Equal(p, want) || before-b.Wait() != n {
					t.Fatalf("Body: %q out of %q", p, all[taken:])
				}
			default:
				n := r.Intn(6)
				p, e := b.Raw(n)
				if e == api.OK && !bytes.Equal(p, all[taken:taken+n]) || e == api.OK && before-b.Wait() != n || e != api.OK && before != b.Wait() {
					t.Fatalf("Raw(%d): %q out of %q", n, p, all[taken:])
				}
			}
			taken += before - b.Wait()
		}
		if left(b) != string(all[taken:]) {
			t.Fatal("other bytes are left")
		}
	}
}

// P1 and P2.3: of nil.
func TestNil(t *testing.T) {
	var b *lines.Buf
	if e := b.Feed([]byte("a")); e != api.ErrNil {
		t.Error("Feed", e)
	}
	if e := b.Feed(make([]byte, 20000)); e != api.ErrNil {
		t.Error("Feed of too much", e)
	}
	if s, e := b.Line(); s != "" || e != api.ErrNil {
		t.Error("Line", s, e)
	}
	for _, n := range []int{-1, 0, 1} {
		if p, e := b.Raw(n); len(p) != 0 || e != api.ErrNil {
			t.Error("Raw", n, p, e)
		}
	}
	if p, e := b.Body(); len(p) != 0 || e != api.ErrNil {
		t.Error("Body", p, e)
	}
	if b.Wait() != 0 || b.Fork() != nil {
		t.Error("Wait, Fork")
	}
}

// P2.3 and P4: what becomes of the one changes nothing of the other one.
func TestFork(t *testing.T) {
	b := fed(t, "one\r\ntwo\r\nthree")
	if s, e := b.Line(); s != "one" || e != api.OK {
		t.Fatal(s, e)
	}
	c := b.Fork()
	if c == nil || c == b || c.Wait() != b.Wait() {
		t.Fatal("it is not alike")
	}
	b.Feed([]byte("BB"))
	c.Feed([]byte("CCC"))
	d := c.Fork()
	if s, e := b.Line(); s != "two" || e != api.OK {
		t.Fatal(s, e)
	}
	if p, e := d.Raw(3); string(p) != "two" || e != api.OK {
		t.Fatal(p, e)
	}
	if b.Wait() != 7 || c.Wait() != 13 || d.Wait() != 10 {
		t.Fatal(b.Wait(), c.Wait(), d.Wait())
	}
	if left(b) != "threeBB" || left(c) != "two\r\nthreeCCC" || left(d) != "\r\nthreeCCC" {
		t.Fatal("they are not kept apart")
	}
	for n := range 40 { // whatever spare room there is behind what waits
		b := fed(t, strings.Repeat("x", n))
		c := b.Fork()
		b.Feed([]byte("B"))
		c.Feed([]byte("C"))
		if left(b) != strings.Repeat("x", n)+"B" || left(c) != strings.Repeat("x", n)+"C" {
			t.Fatal("what is fed to the one comes to the other one", n)
		}
	}
	if e := lines.New().Fork(); e == nil || e.Wait() != 0 || e.Feed([]byte("a")) != api.OK || left(e) != "a" {
		t.Fatal("of an empty one")
	}
}

// P3: what is handed in stays as it is, with its spare room, and is not kept.
func TestHandedIn(t *testing.T) {
	room := []byte("a\r\n.b\r\n.\r\nXXXXXXXXXXXXXXXXXXXXXXXX")
	was := string(room)
	b := lines.New()
	for range 2 {
		if b.Feed(room[:3]) != api.OK || b.Feed(room[3:10]) != api.OK {
			t.Fatal("not fed")
		}
	}
	b.Feed([]byte("zzzz"))
	lines.Stuff(room[:3])
	lines.Stuff(room[:5])
	lines.Stuff(room[:0])
	lines.Unstuff(room[:10])
	if string(room) != was {
		t.Fatalf("it is changed: %q", room)
	}
	body, _, _ := lines.Unstuff(room)
	stuffed := lines.Stuff(room[:3])
	clear(room)
	if string(body) != "a\r\nb\r\n" || string(stuffed) != "a\r\n.\r\n" || left(b) != was[:10]+was[:10]+"zzzz" {
		t.Fatal("it is kept")
	}
}

// P3: what is answered is new memory: who writes into it, or behind it, writes into nothing else.
func TestAnswered(t *testing.T) {
	spoil := func(p []byte) {
		p = p[:cap(p)]
		for i := range p {
			p[i] = '!'
		}
	}
	b := fed(t, "abcdef\r\n..x\r\n.\r\nrest\r\n")
	one, _ := b.Raw(3)
	two, _ := b.Raw(0)
	c := b.Fork()
	spoil(two)
	spoil(one)
	if s, e := b.Line(); s != "def" || e != api.OK {
		t.Fatalf("%q, %d", s, e)
	}
	body, _ := b.Body()
	spoil(body)
	if s, e := b.Line(); s != "rest" || e != api.OK {
		t.Fatalf("%q, %d", s, e)
	}
	if left(c) != "def\r\n..x\r\n.\r\nrest\r\n" {
		t.Fatal("a Fork is changed")
	}
	d := fed(t, "abcdef")
	one, _ = d.Raw(2)
	two, _ = d.Raw(2)
	d.Feed([]byte("gh"))
	if string(one) != "ab" || string(two) != "cd" || left(d) != "efgh" {
		t.Fatal("an answer is changed by what comes later")
	}
	p := []byte("a\r\n.\r\n")
	first, _, _ := lines.Unstuff(p)
	second, _, _ := lines.Unstuff(p)
	third, fourth := lines.Stuff(p), lines.Stuff(p)
	spoil(first)
	spoil(third)
	if string(p) != "a\r\n.\r\n" || string(second) != "a\r\n" || string(fourth) != "a\r\n..\r\n.\r\n" {
		t.Fatal("answers lie in one another")
	}
}

// P6: two buffers know nothing of each other.
func TestApart(t *testing.T) {
	a, b := lines.New(), lines.New()
	a.Feed([]byte("one\r"))
	b.Feed([]byte("two"))
	a.Feed([]byte("\n"))
	if _, e := b.Line(); e != api.ErrShort || a.Wait() != 5 || b.Wait() != 3 {
		t.Fatal("they are not apart")
	}
	if s, e := a.Line(); s != "one" || e != api.OK || left(b) != "two" {
		t.Fatal(s, e)
	}
}
