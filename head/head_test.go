package head_test

import (
	"math/rand"
	"regexp"
	"slices"
	"strconv"
	"strings"
	"testing"

	"pigeonhole/api"
	"pigeonhole/head"
)

// rep is a text n times.
func rep(s string, n int) string { return strings.Repeat(s, n) }

// field is a field.
func field(name, value string, at int) api.Field {
	return api.Field{Name: name, Value: value, At: at}
}

// splits holds what Split tells of a letter against what is wanted.
func splits(t *testing.T, s string, body int, want ...api.Field) {
	t.Helper()
	if l, n, e := head.Split([]byte(s)); !slices.Equal(l, want) || n != body || e != api.OK {
		t.Errorf("Split(%.60q) = %v, %d, %d, want %v, %d", s, l, n, e, want, body)
	}
}

// refuses holds the error that Split tells of a letter, and its place, against what is wanted.
func refuses(t *testing.T, s string, at int, want api.Errno) {
	t.Helper()
	if l, n, e := head.Split([]byte(s)); len(l) != 0 || n != at || e != want {
		t.Errorf("Split(%.60q) = %v, %d, %d, want %d, %d", s, l, n, e, at, want)
	}
}

// P15.1, Split, Example 1
func TestSplit(t *testing.T) {
	splits(t, "A: b\r\n c", 8, field("A", "b c", 0))
	splits(t, "", 0)
	splits(t, "\r\n", 2)
	splits(t, "\r\nA: b", 2)
	splits(t, "\r\n\r\n", 2)
	splits(t, "\r\n x", 2)
	splits(t, "A:", 2, field("A", "", 0))
	splits(t, "A:\r\n", 4, field("A", "", 0))
	splits(t, "A:\r\n\r\n", 6, field("A", "", 0))
	splits(t, "A:b\r\n\r\nB:c\r\n\r\n", 7, field("A", "b", 0))
	splits(t, "A:b\r\nB:c\r\n\r\nno field", 12, field("A", "b", 0), field("B", "c", 5))
	splits(t, "a:1\r\nA:2\r\na:3", 13, field("a", "1", 0), field("A", "2", 5), field("a", "3", 10))
	splits(t, "A: b: c:", 8, field("A", "b: c:", 0))
	splits(t, "A::", 3, field("A", ":", 0))
	splits(t, "Subject: =?x?= \xff\x00\x7f\xc3\xa4\r\n\r\n\xff", 24, field("Subject", "=?x?= \xff\x00\x7f\xc3\xa4", 0))
	// The name has no blanks but in its value, and stays as it is.
	splits(t, "!~#-_a.Z9:x", 11, field("!~#-_a.Z9", "x", 0))
	splits(t, rep("n", 24)+":x", 26, field(rep("n", 24), "x", 0))
}

// P15.1: a value is without the line ends in it, and the blanks at both ends, and no others.
func TestSplitFolded(t *testing.T) {
	splits(t, "A: b  c\t \td \t ", 14, field("A", "b  c\t \td", 0))
	splits(t, "A:\t \tb", 6, field("A", "b", 0))
	splits(t, "A: b \r\n\t c\r\n d\r\n\r\n", 18, field("A", "b \t c d", 0))
	splits(t, "A:\r\n b\r\nC: d", 12, field("A", "b", 0), field("C", "d", 8))
	splits(t, "A: b\r\n \r\n\t\r\nC: d\r\n\r\n", 20, field("A", "b", 0), field("C", "d", 12))
	splits(t, "A: b\r\n \r\n c\r\n\r\n", 15, field("A", "b  c", 0))
	splits(t, "A:\r\n \t\r\n\t ", 10, field("A", "", 0))
	splits(t, "A: b\r\n C: d", 11, field("A", "b C: d", 0))
	splits(t, "A: b\r\n ", 7, field("A", "b", 0))
	splits(t, "A:\u00a0b\v", 6, field("A", "\u00a0b\v", 0)) // no blanks
	// Of a line's end one byte alone is none.
	splits(t, "A: b\rc\nd\n e\r\r\n f\n\r\n\r\n\r", 21, field("A", "b\rc\nd\n e\r f\n", 0))
	splits(t, "A: b\n\nB: c", 10, field("A", "b\n\nB: c", 0))
	splits(t, "A: b\r\r\n\r\n", 9, field("A", "b\r", 0))
	splits(t, "A: b\r", 5, field("A", "b\r", 0))
}

// P15.1: what is no field.
func TestSplitForm(t *testing.T) {
	for _, line := range []string{
		" ", "\t", " A: b", "x", "A", ":", ": b", "A b", "A : b", "A\t: b", "A B: c", "\x00: b", "\x1f: b", "\x7f: b", "\x80: b", "ä: b", "\xff: b",
		"A\n: b", "\n", "\r", "\n\n", "\rA: b", "\nA: b", rep("n", 25) + ": b", rep("n", 1000) + ": b", rep("x", 1024), "From bob",
	} {
		refuses(t, line, 0, api.ErrForm)
		refuses(t, line+"\r\n\r\n", 0, api.ErrForm)
		refuses(t, line+"\r\nA: b\r\n", 0, api.ErrForm)
		splits(t, "\r\n"+line, 2)
		splits(t, "A: b\r\n\r\n"+line, 8, field("A", "b", 0))
		if line[0] != ' ' && line[0] != '\t' {
			refuses(t, "A: b\r\n"+line, 6, api.ErrForm)
			refuses(t, "A: b\r\n c\r\n"+line+"\r\nx", 10, api.ErrForm)
		}
	}
	refuses(t, "A: b\r\n\r", 6, api.ErrForm)
	for c := range 256 {
		if name := string([]byte{byte(c)}); c < 33 || c > 126 || c == ':' {
			refuses(t, name+"x:y", 0, api.ErrForm)
			if c != ':' {
				refuses(t, "x"+name+":y", 0, api.ErrForm)
			}
		} else {
			splits(t, name+"x:y\r\n", 6, field(name+"x", "y", 0))
			splits(t, "x"+name+":y", 4, field("x"+name, "y", 0))
		}
	}
}

// P15.1: lines that are too long, and fields that are too many.
func TestSplitLimit(t *testing.T) {
	long := "A:" + rep("x", 1022)
	splits(t, long, 1024, field("A", long[2:], 0))
	splits(t, long+"\r\n", 1026, field("A", long[2:], 0))
	splits(t, "A:b\r\n "+rep("x", 1023)+"\r\n\r\n", 1033, field("A", "b "+rep("x", 1023), 0))
	splits(t, "A:b\r\n\r\n"+rep("x", 9999), 7, field("A", "b", 0))
	splits(t, "A:"+rep("\r\n "+rep("x", 1000), 50), 2+50*1003, field("A", rep(" "+rep("x", 1000), 50)[1:], 0))
	refuses(t, long+"x", 0, api.ErrLimit)
	refuses(t, long+"x\r\n\r\n", 0, api.ErrLimit)
	refuses(t, long+"\r", 0, api.ErrLimit)
	refuses(t, long+"\r\r\n", 0, api.ErrLimit)
	refuses(t, "A:b\r\n "+rep("x", 1024), 5, api.ErrLimit)
	refuses(t, "A:b\r\nB:c\r\n d\r\n\t"+rep("x", 1024)+"\r\n", 14, api.ErrLimit)
	refuses(t, rep("x", 1025), 0, api.ErrLimit) // ahead of that it is no field
	refuses(t, " "+rep("x", 1024), 0, api.ErrLimit)
	refuses(t, "A:b\r\n"+rep("x", 1025), 5, api.ErrLimit)
	refuses(t, "x\r\n"+rep("x", 1025), 0, api.ErrForm) // line by line
	refuses(t, "A:b\r\n:\r\n"+rep("x", 1025), 5, api.ErrForm)

	many, l := "", []api.Field{}
	for i := range 40 {
		l = append(l, field("N"+strconv.Itoa(i), "v", len(many)))
		many += l[i].Name + ": v\r\n"
	}
	splits(t, many, len(many), l...)
	splits(t, many+"\r\nA: b", len(many)+2, l...)
	l[39].Value = "v w"
	splits(t, many+" w\r\n", len(many)+4, l...)
	refuses(t, many+"A:b", len(many), api.ErrLimit)
	refuses(t, many+"A:b\r\nx", len(many), api.ErrLimit)
	refuses(t, many+" w\r\nA:b\r\n\r\n", len(many)+4, api.ErrLimit)
	refuses(t, many+"x\r\nA:b", len(many), api.ErrForm)
	refuses(t, many+"A:"+rep("b", 1023), len(many), api.ErrLimit)
}

// splitAgain is Split, said another way.
func splitAgain(s string) ([]api.Field, int, api.Errno) {
	name := regexp.MustCompile(`^[!-9;-~]{1,24}:`)
	var l []api.Field
	at := 0
	for k, line := range strings.Split(s, "\r\n") {
		first := name.FindString(line)
		switch {
		case line == "":
			for i := range l {
				l[i].Value = strings.Trim(l[i].Value, " \t")
			}
			return l, min(at+2, len(s)), api.OK
		case len(line) > 1024:
			return nil, at, api.ErrLimit
		case k > 0 && strings.Trim(line[:1], " \t") == "":
			l[len(l)-1].Value += line
		case first == "":
			return nil, at, api.ErrForm
		case len(l) == 40:
			return nil, at, api.ErrLimit
		default:
			l = append(l, field(first[:len(first)-1], line[len(first):], at))
		}
		at += len(line) + 2
	}
	for i := range l {
		l[i].Value = strings.Trim(l[i].Value, " \t")
	}
	return l, len(s), api.OK
}

// P15.1, P1, P3: of any bytes.
func TestSplitOfAny(t *testing.T) {
	r := rand.New(rand.NewSource(151))
	pieces := []string{
		"A", "b:", "C: ", ":", " ", "\t", "\r\n", "\r\n", "\r\n", "\r\nd:", "\r\ne: f", "\r\n ", "\r", "\n", "\xff", "\x00", "ä", rep("n", 24) + ":", rep("x", 500),
	}
	told := map[api.Errno]int{}
	for i := range 60000 {
		var s strings.Builder
		for range r.Intn(12) {
			s.WriteString(pieces[r.Intn(len(pieces))])
		}
		if i%50 == 0 {
			s.WriteString("A:" + rep("\r\nA:", 36+r.Intn(6)))
		}
		b := append(make([]byte, 0, s.Len()+9), s.String()...)
		l, n, e := head.Split(b)
		want, body, fault := splitAgain(s.String())
		if string(b) != s.String() {
			t.Fatalf("Split(%q) changed it", s.String())
		}
		clear(b[:cap(b)]) // what was answered has memory of its own
		if !slices.Equal(l, want) || n != body || e != fault {
			t.Fatalf("Split(%q) = %v, %d, %d, want %v, %d, %d", s.String(), l, n, e, want, body, fault)
		}
		told[e]++
	}
	for _, e := range []api.Errno{api.OK, api.ErrForm, api.ErrLimit} {
		if told[e] < 300 {
			t.Errorf("only %d are told as %d", told[e], e)
		}
	}
	for _, s := range []string{rep("\r\n", 1<<20), rep("A:b\r\n", 1<<20), "A:" + rep("\r\n ", 1<<20), rep("x", 1<<20), rep("\r", 1<<20), rep(":", 1<<20)} {
		head.Split([]byte(s))
	}
}

// P15.1, Get and All
func TestGetAll(t *testing.T) {
	l := []api.Field{
		field("To", "a", 0), field("Subject", "b", 1), field("TO", "", 2), field("tO", "c", 3), field("Tö", "d", 4), field("", "e", 5), field("\xff", "f", 6), field("To ", "g", 7),
	}
	for name, want := range map[string][]string{
		"To": {"a", "", "c"}, "to": {"a", "", "c"}, "TO": {"a", "", "c"}, "subject": {"b"}, "SUBJECT": {"b"}, "Tö": {"d"}, "": {"e"}, "\xff": {"f"}, "to ": {"g"},
		"T": nil, "Too": nil, "TÖ": nil, "\xfe": nil, "\ufffd": nil, "From": nil, "a": nil, ":": nil,
	} {
		if got := head.All(l, name); !slices.Equal(got, want) {
			t.Errorf("All(%q) = %q, want %q", name, got, want)
		}
		first := ""
		if len(want) > 0 {
			first = want[0]
		}
		if v, there := head.Get(l, name); v != first || there != (len(want) > 0) {
			t.Errorf("Get(%q) = %q, %v, want %q", name, v, there, want)
		}
		if v, there := head.Get(nil, name); v != "" || there || len(head.All(nil, name)) != 0 {
			t.Errorf("of no fields %q is %q", name, v)
		}
	}
	if v, there := head.Get(l[2:], "to"); v != "" || !there {
		t.Errorf("Get of an empty value = %q, %v", v, there)
	}
	one, other := head.All(l, "to"), head.All(l, "to")
	one[0] = "x"
	if other[0] != "a" || l[0] != field("To", "a", 0) {
		t.Error("two lists of All lie in one another, or in what was handed in")
	}
}

// P15.4, Ident
func TestIdent(t *testing.T) {
	for value, want := range map[string]string{
		"<a@b>":             "a@b",
		" \t <a@b>\t \t":    "a@b",
		"<1.2.x@here.also>": "1.2.x@here.also",
		"<!#$&'+,-./:;=?[^_`|}~@!#$&'+,-./:;=?[^_`|}~>":   "!#$&'+,-./:;=?[^_`|}~@!#$&'+,-./:;=?[^_`|}~",
		"<" + rep("a", 2000) + "@" + rep("b", 2000) + ">": rep("a", 2000) + "@" + rep("b", 2000),
	} {
		if s, ok := head.Ident(value); s != want || !ok {
			t.Errorf("Ident(%.60q) = %.60q, %v", value, s, ok)
		}
	}
	for _, value := range []string{
		"", " ", "a@b", "<>", "<@>", "<a>", "<a@>", "<@b>", "<a@b", "a@b>", "<a@b@c>", "<a@@b>", "<@a@b>", "<a@b@>", "<<a@b>", "<a@b>>", "<<a@b>>", "<a<@b>", "<a@b>c>",
		"< a@b>", "<a@b >", "<a @b>", "<a@\tb>", "x<a@b>", "<a@b>x", "<a@b> x", "<a@b><c@d>", "<a@b> <c@d>", "\n<a@b>", "<a@b>\r\n", "\u00a0<a@b>", "<a@b>\v",
		"<(a@b>", "<a)@b>", "<a{@b>", "<a@%b>", "<a@*b>", "<\"a\"@b>", "<a\\@b>", "<a@b]>", "<ä@b>", "<a@b\xff>", "<a@b\x7f>", "<a\x00@b>", "<", ">", "@", "<@", "@>", "><",
	} {
		if s, ok := head.Ident(value); s != "" || ok {
			t.Errorf("Ident(%.60q) = %.60q, %v", value, s, ok)
		}
	}
}

// P15.4, Ident: all short texts of these letters.
func TestIdentOfFew(t *testing.T) {
	form := regexp.MustCompile(`^[ \t]*<([^<>@ \t(]+@[^<>@ \t(]+)>[ \t]*$`)
	var ask func(s string, n int)
	ask = func(s string, n int) {
		want := ""
		if m := form.FindStringSubmatch(s); m != nil {
			want = m[1]
		}
		if got, ok := head.Ident(s); got != want || ok != (want != "") {
			t.Fatalf("Ident(%q) = %q, %v, want %q", s, got, ok, want)
		}
		for _, l := range []string{"<", ">", "@", "a", " ", "\t", "("} {
			if n > 0 {
				ask(s+l, n-1)
			}
		}
	}
	ask("", 6)
	ask("<a@", 5)
}
