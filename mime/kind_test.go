package mime_test

import (
	"math/rand"
	"regexp"
	"slices"
	"strings"
	"testing"

	"pigeonhole/api"
	"pigeonhole/mime"
)

// rep is a text n times.
func rep(s string, n int) string { return strings.Repeat(s, n) }

// params are parameters: names and values in turn.
func params(l ...string) [][2]string {
	var p [][2]string
	for i := 0; i < len(l); i += 2 {
		p = append(p, [2]string{l[i], l[i+1]})
	}
	return p
}

// kinds holds what Kind tells of a value against what is wanted.
func kinds(t *testing.T, value, want string, with ...string) {
	t.Helper()
	if kind, l, e := mime.Kind(value); kind != want || !slices.Equal(l, params(with...)) || e != api.OK {
		t.Errorf("Kind(%.80q) = %.80q, %.80q, %d, want %.80q, %.80q", value, kind, l, e, want, with)
	}
}

// unkinds holds the error that Kind tells of a value against what is wanted.
func unkinds(t *testing.T, value string, want api.Errno) {
	t.Helper()
	if kind, l, e := mime.Kind(value); kind != "" || len(l) != 0 || e != want {
		t.Errorf("Kind(%.80q) = %.80q, %.80q, %d, want %d", value, kind, l, e, want)
	}
}

// P17.1, Example 1
func TestKind(t *testing.T) {
	kinds(t, `Text/Plain; Charset="a b"`, "text/plain", "charset", "a b")
	kinds(t, "text/plain", "text/plain")
	kinds(t, " \t TEXT/PLAIN\t \t", "text/plain")
	kinds(t, "a/b;c=d", "a/b", "c", "d")
	kinds(t, "a/b ; c=d", "a/b", "c", "d")
	kinds(t, "a/b\t \t; \t c=d \t ;\te=f ", "a/b", "c", "d", "e", "f")
	kinds(t, "A/B; C=D; E=\"F\"; C=g", "a/b", "c", "D", "e", "F", "c", "g") // values stay, and so do names that stand twice
	kinds(t, `a/b; c=""`, "a/b", "c", "")
	kinds(t, `a/b; c=" "`, "a/b", "c", " ")
	kinds(t, `a/b; c="; d=e"; f=g`, "a/b", "c", "; d=e", "f", "g")
	kinds(t, `a/b; c="\"\\" ;d="ä €"`, "a/b", "c", `"\`, "d", "ä €")
	kinds(t, `a/b; c="`+rep("x", 1024)+`"`, "a/b", "c", rep("x", 1024))
	kinds(t, "!#$%&'*+-.^_`{|}~0/9; !#$%&'*+-.^_`{|}~=!#$%&'*+-.^_`{|}~", "!#$%&'*+-.^_`{|}~0/9", "!#$%&'*+-.^_`{|}~", "!#$%&'*+-.^_`{|}~")
	kinds(t, rep("A", 5000)+"/"+rep("B", 5000)+"; "+rep("C", 5000)+"="+rep("D", 5000), rep("a", 5000)+"/"+rep("b", 5000), rep("c", 5000), rep("D", 5000))
}

// P17.1: what is none.
func TestKindForm(t *testing.T) {
	for _, value := range []string{
		"", " ", "\t", "text", "/", "text/", "/plain", "text//plain", "text/plain/x", "a b/c", "a /b", "a/ b", "a/b c", "a/b x=y", "a/b, c=d", "a/b (x)", "(x) a/b", "a/b; c=d (x)",
		"a/b;", "a/b; ", "a/b;;c=d", "a/b;c=d;", "a/b;c=d; ", "a/b;c=d;;e=f", ";", "; c=d", "c=d",
		"a/b;c", "a/b;=", "a/b;c=", "a/b;=d", "a/b;c =d", "a/b;c= d", "a/b;c=\td", "a/b;c==d", "a/b;c=d=e", "a/b;c=d e", "a/b;c=d e=f", "a/b;c d=e", "a/b c;d=e", "a/b;c=d/e", "a/b;c/d=e",
		`a/b;"c"=d`, `a/b;c="d`, `a/b;c="`, `a/b;c="d"e`, `a/b;c="d""e"`, `a/b;c="d" "e"`, `a/b;c=d"e"`, `a/b;c="\d"`, `a/b;c="d\"`, "a/b;c=\"d\r\n\"", "a/b;c=\"\x7f\"", "a/b;c=\"\t\"", "a/b;c=\"\xff\"", `"a"/b`, `a/"b"`, `"a/b"`,
		"a/b;c=\"" + rep("x", 1025) + "\"", "a/b;c=\"" + rep("x", 1<<20) + "\"", "a/b;c=ä", "a/b;ä=c", "ä/b", "a/ä", "a/b\r\n", "\na/b", "\u00a0a/b", "a/b\v", "a/b;\r\n c=d", rep("a", 1<<20), rep("a/", 1<<19), "a/b" + rep(";", 1<<20),
	} {
		unkinds(t, value, api.ErrForm)
		unkinds(t, " "+value+"\t", api.ErrForm)
	}
}

// P17.1: each byte, in each token, and between the signs.
func TestKindBytes(t *testing.T) {
	for c := range 256 {
		l := string([]byte{byte(c)})
		small, token := strings.ToLower(l), c > 32 && c < 127 && !strings.Contains(`()<>@,;:\"/[]?=`, l)
		for _, at := range []string{"", "x", "xy"} {
			value := at + l + "z"
			if token {
				kinds(t, value+"/b", at+small+"z/b")
				kinds(t, "a/"+value, "a/"+at+small+"z")
				kinds(t, "a/b;"+value+"=d", "a/b", at+small+"z", "d")
				kinds(t, "a/b;c="+value, "a/b", "c", value)
				continue
			}
			if l == " " || l == "\t" { // they may stand ahead of all, and behind a ;
				value = "x" + value
			}
			unkinds(t, value+"/b", api.ErrForm)
			unkinds(t, "a/"+value, api.ErrForm)
			unkinds(t, "a/b;"+value+"=d", api.ErrForm)
			unkinds(t, "a/b;c="+value, api.ErrForm)
		}
		if quoted := `a/b; c="x` + l + `y"`; c >= 32 && c < 127 && l != `"` && l != `\` {
			kinds(t, quoted, "a/b", "c", "x"+l+"y")
		} else {
			unkinds(t, quoted, api.ErrForm)
		}
	}
}

// P17.1: parameters that are too many; the form goes ahead of that.
func TestKindLimit(t *testing.T) {
	var eight []string
	for range 8 {
		eight = append(eight, "c", "d")
	}
	kinds(t, "a/b"+rep(";c=d", 8), "a/b", eight...)
	kinds(t, "a/b"+rep(" ; C=\"d\"", 8)+" ", "a/b", eight...)
	for _, n := range []int{9, 10, 100, 100000} {
		unkinds(t, "a/b"+rep("; c=d", n), api.ErrLimit)
		unkinds(t, "a/b"+rep(";c=\"\"", n), api.ErrLimit)
		unkinds(t, "a/b"+rep("; c=d", n)+";", api.ErrForm)
		unkinds(t, "a/b"+rep("; c=d", n)+" e", api.ErrForm)
		unkinds(t, "a"+rep("; c=d", n), api.ErrForm)
		unkinds(t, "a/b; c"+rep("; c=d", n), api.ErrForm)
	}
}

// Of what a kind is made, said another way than the package does.
const (
	tokenForm = "[!#-'*+.0-9A-Z^-~-]+"
	valueForm = `(` + tokenForm + "|\"(?:[^\\x00-\\x1f\\x7f\"\\\\]|\\\\[\"\\\\])*\")"
	oneForm   = `[ \t]*;[ \t]*(` + tokenForm + `)=` + valueForm
)

var (
	kindForm  = regexp.MustCompile(`^[ \t]*(` + tokenForm + `/` + tokenForm + `)((?:` + oneForm + `)*)[ \t]*$`)
	paramForm = regexp.MustCompile(oneForm)
	signForm  = regexp.MustCompile(`\\(.)`)
)

// kindAgain is Kind, said another way, of texts of which no value is too long.
func kindAgain(value string) (string, [][2]string, api.Errno) {
	m := kindForm.FindStringSubmatch(value)
	if m == nil || strings.ToValidUTF8(value, "") != value {
		return "", nil, api.ErrForm
	}
	var l [][2]string
	for _, p := range paramForm.FindAllStringSubmatch(m[2], -1) {
		if said, ok := strings.CutPrefix(p[2], `"`); ok {
			p[2] = signForm.ReplaceAllString(said[:len(said)-1], "$1")
		}
		l = append(l, [2]string{strings.ToLower(p[1]), p[2]})
	}
	if len(l) > 8 {
		return "", nil, api.ErrLimit
	}
	return strings.ToLower(m[1]), l, api.OK
}

// P17.1, P1, P3, P6: random values.
func TestKindOfAny(t *testing.T) {
	r := rand.New(rand.NewSource(171))
	pieces := []string{"a", "B/c", "/", ";", "; ", "d=e", "; f=g", ";H=\"i\\\"j\"", "=", "\"", "\"k l\"", " ", "\t", "\\", "ä", "\xff", "(", ";m=n;o=p", "\x00", ";q=\"ä\" "}
	told := map[api.Errno]int{}
	for i := range 200000 {
		var s strings.Builder
		if i%3 > 0 {
			s.WriteString("Text/Plain")
		}
		for range r.Intn(6) {
			s.WriteString(pieces[r.Intn(len(pieces))])
		}
		if i%10 == 0 {
			s.WriteString(rep("; x=y", 6+r.Intn(4)))
		}
		value := s.String()
		kind, l, e := mime.Kind(value)
		want, with, fault := kindAgain(value)
		if kind != want || !slices.Equal(l, with) || e != fault {
			t.Fatalf("Kind(%q) = %q, %q, %d, want %q, %q, %d", value, kind, l, e, want, with, fault)
		}
		if _, again, _ := mime.Kind(value); len(l) > 0 { // each list has memory of its own
			clear(l)
			if !slices.Equal(again, with) {
				t.Fatal("two lists of Kind lie in one another")
			}
		}
		told[e]++
	}
	for _, e := range []api.Errno{api.OK, api.ErrForm, api.ErrLimit} {
		if told[e] < 1000 {
			t.Errorf("only %d are told as %d", told[e], e)
		}
	}
}
