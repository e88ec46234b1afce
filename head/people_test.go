package head_test

import (
	"math/rand"
	"regexp"
	"slices"
	"strings"
	"testing"

	"pigeonhole/addr"
	"pigeonhole/api"
	"pigeonhole/head"
	"pigeonhole/text"
)

// person is somebody.
func person(name, local, domain string) api.Person {
	return api.Person{Name: name, Addr: api.Addr{Local: local, Domain: domain}}
}

// lists holds what People tells of a value against what is wanted.
func lists(t *testing.T, value string, want ...api.Person) {
	t.Helper()
	if l, at, e := head.People(value); !slices.Equal(l, want) || at != 0 || e != api.OK {
		t.Errorf("People(%.80q) = %.80q, %d, %d, want %.80q", value, l, at, e, want)
	}
}

// fails holds the error that People tells of a value, and its place, against what is wanted.
func fails(t *testing.T, value string, at int, want api.Errno) {
	t.Helper()
	if l, n, e := head.People(value); len(l) != 0 || n != at || e != want {
		t.Errorf("People(%.80q) = %.80q, %d, %d, want %d, %d", value, l, n, e, at, want)
	}
}

// P15.3, Example 2
func TestPeople(t *testing.T) {
	lists(t, `Bob <b@c>, "x" (y) <d@e>`, person("Bob", "b", "c"), person("x", "d", "e"))
	b := person("", "b", "c")
	for _, s := range []string{"b@c", " b@c\t", "(x)b@c", "b@c(x)", "(x) (y)\tb@c (z)(z) ", "<b@c>", " <b@c> ", "(x)<b@c>(y)", "b@C", `"b"@c`, `<"b"@C>`} {
		lists(t, s, b)
		lists(t, s+","+s, b, b)
		lists(t, s+", x <y@z> ,"+s, b, person("x", "y", "z"), b)
	}
	lists(t, "Bob.X@Mail.Example", person("", "Bob.X", "mail.example"))
	lists(t, `"a,b <c> (d)"@e, f@g`, person("", "a,b <c> (d)", "e"), person("", "f", "g"))
	lists(t, `x <"a>,b"@e>, f@g`, person("x", "a>,b", "e"), person("", "f", "g"))
	lists(t, `""@c, <""@c>`, person("", "", "c"), person("", "", "c"))
	lists(t, "!#$%&'*+-/=?^_`{|}~@c", person("", "!#$%&'*+-/=?^_`{|}~", "c"))
	lists(t, rep("a", 64)+"@"+rep(rep("b", 63)+".", 3)+rep("c", 63), person("", rep("a", 64), rep(rep("b", 63)+".", 3)+rep("c", 63)))
}

// P15.3: names.
func TestPeopleNames(t *testing.T) {
	for s, name := range map[string]string{
		"":                          "",
		"Bob":                       "Bob",
		"Bob X. Y":                  "Bob X. Y",
		"Bob  \t X.\t":              "Bob X.",
		`"Bob X"`:                   "Bob X",
		`"Bob  X" `:                 "Bob  X",
		`"a\"b\\c"`:                 `a"b\c`,
		`"a,b;c:<d>@[e](f)"`:        "a,b;c:<d>@[e](f)",
		`"ä €" x`:                   "ä € x",
		`""`:                        "",
		`"" ""`:                     " ",
		`" "`:                       " ",
		`a "" b`:                    "a  b",
		`a"b"c`:                     "a b c",
		`"a""b"`:                    "a b",
		`"a"b`:                      "a b",
		`a(x)b`:                     "a b",
		`(x)a(y(z))b (\)) (())`:     "a b",
		`(x)"a"(y)"b"()`:            "a b",
		"a@b":                       "a@b", // a word, if an address stands behind it
		"a@b c@d":                   "a@b c@d",
		`"a"@b`:                     "a @b",
		".@..!#$%&'*+-/=?^_`{|}~.@": ".@..!#$%&'*+-/=?^_`{|}~.@",
		"~":                         "~",
		`"` + rep("x", 1024) + `"`:  rep("x", 1024),
		rep("x", 5000):              rep("x", 5000),
		rep(`"x" `, 2000):           rep("x ", 2000)[:3999],
	} {
		for _, around := range []string{"", " ", "(x) "} {
			lists(t, around+s+"<b@c>"+around, person(name, "b", "c"))
			lists(t, "d@e,"+s+around+"<b@c>,d@e", person("", "d", "e"), person(name, "b", "c"), person("", "d", "e"))
		}
	}
}

// P15.3: each byte, in a word and ahead of one.
func TestPeopleWords(t *testing.T) {
	for c := range 256 {
		l := string([]byte{byte(c)})
		switch {
		case l == " " || l == "\t":
			lists(t, "a"+l+"b <c@d>", person("a b", "c", "d"))
			lists(t, l+"b <c@d>", person("b", "c", "d"))
		case l == ",":
			fails(t, "a,b <c@d>", 0, api.ErrForm)
			lists(t, "a@b,b <c@d>", person("", "a", "b"), person("b", "c", "d"))
		case c < 33 || c > 126 || strings.Contains(`()<>":;\[]`, l):
			fails(t, "a"+l+"b <c@d>", 0, api.ErrForm)
			fails(t, l+" <c@d>", 0, api.ErrForm)
			fails(t, "a@b"+l, 0, api.ErrForm)
			fails(t, "a@b,<c@d>"+l, 1, api.ErrForm)
			fails(t, l, 0, api.ErrForm)
		default:
			lists(t, "a"+l+"b <c@d>", person("a"+l+"b", "c", "d"))
			lists(t, l+"<c@d>", person(l, "c", "d"))
		}
		// Between the signs of a remark each byte may stand, behind a \ or, but for three, without it.
		lists(t, "(\\"+l+") a@b", person("", "a", "b"))
		if !strings.Contains(`()\`, l) {
			lists(t, "a@b("+l+")", person("", "a", "b"))
		}
	}
}

// P15.3: how deep remarks lie in one another.
func TestPeopleRemarks(t *testing.T) {
	b := person("", "b", "c")
	for _, s := range []string{
		"()", "(())", "(()())", "(x(y)z)", rep("(", 8) + rep(")", 8), rep("(x", 8) + rep("y)", 8), "(" + rep("()", 100) + ")", rep("()", 100), rep("(", 7) + rep("()", 20) + rep(")", 7),
		`(\()`, `(\))`, `(\\)`, `(\\\))`, `(\(\(\(\(\(\(\(\(\()`, `(x(\)))`, "(\"b)", "(\"(\")\")", "(a@b, c)", "(<)", "(\r\n)", "(\xff\\\xff)", "(\\ä)", "(ä)", rep("(", 8) + `\(` + rep(")", 8),
	} {
		lists(t, s+"b@c", b)
		lists(t, "b@c "+s, b)
		lists(t, s+"x"+s+"<b@c>"+s, person("x", "b", "c"))
		fails(t, s, 0, api.ErrShort)
		fails(t, " "+s+"\t"+s, 0, api.ErrShort)
		fails(t, "b@c,"+s, 1, api.ErrForm)
		fails(t, s+",b@c", 0, api.ErrForm)
	}
	for _, s := range []string{
		"(", ")", "(()", "())", "(x", `(\)`, `(\`, `\(`, "(\\))b)", rep("(", 9) + rep(")", 9), rep("(x", 9) + rep("y)", 9), rep("(", 8) + rep(")", 7), "(" + rep("()", 9) + rep("(", 8) + rep(")", 9),
		rep("(", 8) + "())" + rep(")", 7), rep("(", 1<<20), rep("()", 1<<18) + "(",
	} {
		fails(t, s, 0, api.ErrForm)
		fails(t, s+"b@c", 0, api.ErrForm)
		fails(t, "b@c "+s, 0, api.ErrForm)
		fails(t, "b@c, x"+s+"<b@c>", 1, api.ErrForm)
		fails(t, "b@c, x <b@c>"+s, 1, api.ErrForm)
	}
}

// P15.3: what is nothing, and what is none; and how many stand ahead.
func TestPeopleForm(t *testing.T) {
	for _, s := range []string{"", " ", "\t", " \t \t", "(x)", " (x) ", "(x)(y)"} {
		fails(t, s, 0, api.ErrShort)
		fails(t, "b@c,"+s, 1, api.ErrForm)
		fails(t, s+",b@c", 0, api.ErrForm)
		fails(t, s+",", 0, api.ErrForm)
	}
	for _, s := range []string{
		"x", "x y", `"x"`, "@", "b@", "@c", "b@c.", "b@-c", "b@c-", "b..b@c", ".b@c", "b@c@d", "b @c", "b@ c", "b@c d", "b@c d@e", "b(x)@c", "b@(x)c", `"b" @c`, `"b"(x)@c`, `"b"`, `"b"c@d`, `b"c"@d`,
		`"ä"@c`, `"b@c`, `"b\c"@d`, "ä@c", "b@ä", "<", ">", "<>", "x <>", "< >", "<b>", "<b@c", "b@c>", "<b@c>>", "<<b@c>>", "< b@c>", "<b@c >", "<(x)b@c>", "<b@c(x)>", "<x <b@c>>", "<b@c> x", "<b@c> <d@e>",
		"<b@c>x", "<b@c>\"x\"", "b@c <", "b@c <>", "x <b@c", "x b@c", "x b@c>", "x; <b@c>", "x: b@c;", "x:", ";", "b@c;", "[x] <b@c>", `\x <b@c>`, `x\ <b@c>`, "ä <b@c>", "x\x00 <b@c>", "x\u00a0<b@c>", "b@c\r\n", "\r\n b@c",
		`"` + rep("x", 1025) + `" <b@c>`, `"x <b@c>`, `"x" "y <b@c>`, `"\x" <b@c>`, "\"\n\" <b@c>", "\"\xff\" <b@c>", rep("a", 65) + "@c", "<" + rep("a", 65) + "@c>", "b@" + rep("a.", 127) + "ab", "<b@" + rep("a.", 127) + "ab>", rep("x", 1<<20),
	} {
		fails(t, s, 0, api.ErrForm)
		fails(t, s+", b@c", 0, api.ErrForm)
		fails(t, "b@c, "+s, 1, api.ErrForm)
		fails(t, "(x) x \"y,\" <b@c>, \"z,\"@c, "+s+",b@c", 2, api.ErrForm)
	}
	fails(t, ",", 0, api.ErrForm)
	fails(t, ",b@c", 0, api.ErrForm)
	fails(t, "b@c,", 1, api.ErrForm)
	fails(t, "b@c,,d@e", 1, api.ErrForm)
	fails(t, "b@c,d@e,", 2, api.ErrForm)
}

// P15.3: a list that is too long; a fault goes ahead of that, wherever it stands.
func TestPeopleLimit(t *testing.T) {
	many := make([]api.Person, 16)
	for i := range many {
		many[i] = person("x", "b", "c")
	}
	one := "x <b@c>"
	lists(t, one+rep(","+one, 15), many...)
	for _, n := range []int{16, 17, 100, 5000} {
		fails(t, one+rep(" , "+one, n), 0, api.ErrLimit)
		fails(t, rep("b@c,", n)+"<b@c>", 0, api.ErrLimit)
		fails(t, one+rep(" , "+one, n)+",", n+1, api.ErrForm)
		fails(t, one+rep(" , "+one, n)+" x", n, api.ErrForm)
		fails(t, rep(one+",", n)+"x,"+one, n, api.ErrForm)
		fails(t, one+","+"x,"+rep(one+",", n)+one, 1, api.ErrForm)
	}
}

// Of what a list is made, said another way than the package does.
var (
	spaceForm = `(?:[ \t]|` + deepRemark(8) + `)*`
	wordForm  = "(?:\"(?:[^\\x00-\\x1f\\x7f\"\\\\]|\\\\[\"\\\\])*\"|[!#-'*+./0-9=?-Z^-~-]+)"
	localForm = "(?:[a-zA-Z0-9!#$%&'*+/=?^_`{|}~-]+(?:\\.[a-zA-Z0-9!#$%&'*+/=?^_`{|}~-]+)*|\"(?:[ !#-\\[\\]-~]|\\\\[\"\\\\])*\")"
	mailForm  = localForm + `@[a-zA-Z0-9](?:[a-zA-Z0-9-]*[a-zA-Z0-9])?(?:\.[a-zA-Z0-9](?:[a-zA-Z0-9-]*[a-zA-Z0-9])?)*`

	noneForm = regexp.MustCompile(`(?s)^` + spaceForm + `$`)
	bareForm = regexp.MustCompile(`(?s)^` + spaceForm + `(` + mailForm + `)` + spaceForm + `(?:,|$)`)
	pathForm = regexp.MustCompile(`(?s)^` + spaceForm + `((?:` + wordForm + spaceForm + `)*)(<` + mailForm + `>)` + spaceForm + `(?:,|$)`)
	partForm = regexp.MustCompile(`(?s)` + wordForm + `|` + deepRemark(8))
)

// deepRemark is the form of a remark in which up to so many lie, itself counted.
func deepRemark(n int) string {
	if n == 0 {
		return `[^\x00-\x{10ffff}]`
	}
	return `\((?:[^()\\]|\\.|` + deepRemark(n-1) + `)*\)`
}

// peopleAgain is People, said another way, of texts of which no part is too long.
func peopleAgain(s string) ([]api.Person, int, api.Errno) {
	if noneForm.MatchString(s) {
		return nil, 0, api.ErrShort
	}
	var l []api.Person
	for more := true; more; {
		var p api.Person
		m := bareForm.FindStringSubmatch(s)
		if m != nil {
			p.Addr, _, _ = addr.Parse(m[1])
		} else if m = pathForm.FindStringSubmatch(s); m != nil {
			var words []string
			for _, w := range partForm.FindAllString(m[1], -1) {
				if w[0] == '"' {
					w, _, _ = text.Unquote(w)
				} else if w[0] == '(' {
					continue
				}
				words = append(words, w)
			}
			p.Name = strings.Join(words, " ")
			p.Addr, _, _ = addr.Path(m[2])
		} else {
			return nil, len(l), api.ErrForm
		}
		l = append(l, p)
		s = s[len(m[0]):]
		more = strings.HasSuffix(m[0], ",")
	}
	if len(l) > 16 {
		return nil, 0, api.ErrLimit
	}
	return l, 0, api.OK
}

// P15.3: of random texts.
func TestPeopleOfAny(t *testing.T) {
	r := rand.New(rand.NewSource(153))
	pieces := []string{
		"a", "B.c", "@", "d@e", "<f@g>", "<f@g>", ",", ", ", ",", " ", "\t", "\"", "\"h, i\"", "\"\\\"ä\"", "(", ")", "(j)", "(k(\\)l))", "\\", "<", ">", ";", "ä", "-", ".", "x <y@z>, ", "\"o p\"@q",
		rep("(", 8) + rep(")", 8), rep("(", 9) + rep(")", 9),
	}
	told := map[api.Errno]int{}
	ask := func(s string) {
		l, at, e := head.People(s)
		want, place, fault := peopleAgain(s)
		if !slices.Equal(l, want) || at != place || e != fault {
			t.Fatalf("People(%q) = %q, %d, %d, want %q, %d, %d", s, l, at, e, want, place, fault)
		}
		told[e]++
	}
	for i := range 20000 {
		var s strings.Builder
		for range r.Intn(8) {
			s.WriteString(pieces[r.Intn(len(pieces))])
		}
		ask(s.String())
		if i%4 == 0 {
			ask(rep("x <y@z>, ", 13+r.Intn(5)) + s.String())
		}
	}
	var few func(s string, n int)
	few = func(s string, n int) {
		ask(s)
		for _, l := range []string{"a", "@", "\"", "(", ")", "<a@b>", "a@b", ",", " "} {
			if n > 0 {
				few(s+l, n-1)
			}
		}
	}
	few("", 4)
	for _, e := range []api.Errno{api.OK, api.ErrShort, api.ErrForm, api.ErrLimit} {
		if told[e] < 40 {
			t.Errorf("only %d are told as %d", told[e], e)
		}
	}
}

// prints holds what Print tells of a list against what is wanted, and P15.6: People of Print is the list.
func prints(t *testing.T, want string, l ...api.Person) {
	t.Helper()
	s, e := head.Print(l)
	if s != want || e != api.OK {
		t.Errorf("Print(%.80q) = %.80q, %d, want %.80q", l, s, e, want)
	}
	lists(t, s, l...)
}

// P15.4, Print; P15.6 (M1)
func TestPrint(t *testing.T) {
	bob, ann := person("", "b", "c"), person("Ann", "a", "d.e")
	prints(t, "b@c", bob)
	prints(t, `"Ann" <a@d.e>`, ann)
	prints(t, `b@c, "Ann" <a@d.e>, b@c`, bob, ann, bob)
	prints(t, `"a\"\\ , <x>" <"a b\"@"@c>`, person(`a"\ , <x>`, `a b"@`, "c"))
	prints(t, `" " <"."@c>, "  x " <">"@c>`, person(" ", ".", "c"), person("  x ", ">", "c"))
	prints(t, `"~ !" <B@c>, "(" <~@c>`, person("~ !", "B", "c"), person("(", "~", "c"))
	prints(t, `"`+rep(`\"`, 1024)+`" <b@c>`, person(rep(`"`, 1024), "b", "c"))
	prints(t, "b@c"+rep(", b@c", 15), slices.Repeat([]api.Person{bob}, 16)...)
	prints(t, rep("a", 64)+"@"+rep("b.", 127)+"b", person("", rep("a", 64), rep("b.", 127)+"b"))
}

// P15.4, Print: what is none; addresses go ahead of names.
func TestPrintErrors(t *testing.T) {
	bob := person("Bob", "b", "c")
	wrong := func(want api.Errno, l ...api.Person) {
		t.Helper()
		if s, e := head.Print(l); s != "" || e != want {
			t.Errorf("Print(%.80q) = %.80q, %d, want %d", l, s, e, want)
		}
	}
	wrong(api.ErrShort)
	wrong(api.ErrShort, []api.Person{}...)
	wrong(api.ErrLimit, slices.Repeat([]api.Person{bob}, 17)...)
	wrong(api.ErrLimit, make([]api.Person, 5000)...)
	form := []api.Person{person("", "", ""), person("", "", "c"), person("", "b", ""), person("", "b", "C"), person("", "ä", "c"), person("x", "b\n", "c"), person("x", "b", "c.")}
	limit := []api.Person{person("", rep("a", 65), "c"), person("x", "b", rep("a.", 128)+"a")}
	name := []api.Person{person("ä", "b", "c"), person("\x7f", "b", "c"), person("\x1f", "b", "c"), person("x\n", "b", "c"), person("\xff", "b", "c"), person("€", "b", "c"), person("x\u0080", "b", "c"), person("\ufffd", "b", "c")}
	long := []api.Person{person(rep("x", 1025), "b", "c"), person(rep("ä", 513), "b", "c"), person(rep("\n", 1025), "b", "c")}
	for _, p := range append(slices.Clone(form), name...) {
		wrong(api.ErrForm, p)
		wrong(api.ErrForm, bob, p, bob)
	}
	for _, p := range append(slices.Clone(limit), long...) {
		wrong(api.ErrLimit, p)
		wrong(api.ErrLimit, bob, p, bob)
	}
	for _, f := range form {
		for _, x := range limit {
			wrong(api.ErrForm, bob, f, x)
			wrong(api.ErrLimit, bob, x, f)
		}
		for _, x := range long {
			wrong(api.ErrForm, f, x)
			wrong(api.ErrForm, x, bob, f)
		}
	}
	for _, n := range name {
		for _, x := range limit {
			wrong(api.ErrLimit, n, x)
			wrong(api.ErrLimit, x, n)
		}
		for _, x := range long {
			wrong(api.ErrForm, n, bob, x)
			wrong(api.ErrLimit, x, n)
		}
	}
}

// P15.6 (M1): of random lists.
func TestPeopleOfPrint(t *testing.T) {
	r := rand.New(rand.NewSource(156))
	any := func(most int) string {
		b := make([]byte, r.Intn(most+1))
		for i := range b {
			b[i] = byte(32 + r.Intn(95))
		}
		return string(b)
	}
	for range 5000 {
		l := make([]api.Person, 1+r.Intn(16))
		for i := range l {
			l[i] = person(any(12), any(8)+"x", text.Lower("A1-b.c"[:1+3*r.Intn(2)]+"z"))
		}
		s, e := head.Print(l)
		if e != api.OK {
			t.Fatalf("Print(%q) = %d", l, e)
		}
		lists(t, s, l...)
	}
}

// P1, P6: each call ends, tells nothing beside an error, and tells the same again.
func TestTextsOfAnyBytes(t *testing.T) {
	r := rand.New(rand.NewSource(1))
	texts := []string{
		rep("a", 1<<20), rep("a@b,", 1<<18), rep("\"a\"", 1<<18), rep("\"", 1<<20), rep("<", 1<<20), rep("a <a@b> ", 1<<17), rep("(\\", 1<<20), rep(",", 1<<20), rep("<a@", 1<<18), "<\"" + rep(">", 1<<20), rep("\xff", 1<<20),
		rep(" ", 1<<20), rep("() ", 1<<18),
	}
	for range 5000 {
		b := make([]byte, r.Intn(12))
		r.Read(b)
		texts = append(texts, string(b), "a@b,"+string(b), "\""+string(b)+"\" <a@b>", "a ("+string(b)+") <a@b>", "<"+string(b)+"@x>")
	}
	for _, s := range texts {
		l, at, e := head.People(s)
		again, place, fault := head.People(s)
		if !slices.Equal(l, again) || at != place || e != fault || e != api.OK && len(l) > 0 || e != api.ErrForm && at != 0 || e == api.OK && (len(l) == 0 || len(l) > 16) {
			t.Fatalf("People(%.40q) = %.80q, %d, %d, and %.80q, %d, %d", s, l, at, e, again, place, fault)
		}
		if len(l) > 0 { // each list has memory of its own
			l[0].Name += "x"
			if l[0] == again[0] {
				t.Fatal("two lists of People lie in one another")
			}
		}
		if id, ok := head.Ident(s); !ok && id != "" {
			t.Fatalf("Ident(%.40q) = %.40q, false", s, id)
		}
		head.Fold(s, s)
		head.Print([]api.Person{person(s, s, s)})
		head.Print([]api.Person{person(s, "a", "b")})
	}
}
