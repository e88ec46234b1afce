package addr_test

import (
	"math/rand"
	"regexp"
	"strings"
	"testing"

	"pigeonhole/addr"
	"pigeonhole/api"
	"pigeonhole/text"
)

// Of what an address is made, said another way than the package does.
const (
	wordForm   = "[a-zA-Z0-9!#$%&'*+/=?^_`{|}~-]+"
	signedForm = `"(?:[ !#-\[\]-~]|\\["\\])*"`
	labelForm  = `[a-zA-Z0-9](?:[a-zA-Z0-9-]{0,61}[a-zA-Z0-9])?`
	localForm  = `(?:` + wordForm + `(?:\.` + wordForm + `)*|` + signedForm + `)`
	domainForm = labelForm + `(?:\.` + labelForm + `)*`
)

var (
	wholeForm   = regexp.MustCompile(`^` + localForm + `@` + domainForm + `$`)
	leastDomain = regexp.MustCompile(`^` + strings.ReplaceAll(domainForm, "A-Z", "") + `$`)
	plainLocal  = regexp.MustCompile(`^` + wordForm + `(?:\.` + wordForm + `)*$`)
)

// ends are what, behind a beginning of an address, makes it a whole one, however far it is.
var ends = []string{"", "a", "@a", "a@a", `"@a`, `""@a`}

// begins: does a text go on to an address?
func begins(s string) bool {
	for _, end := range ends {
		if wholeForm.MatchString(s + end) {
			return true
		}
	}
	return false
}

// rep is a text n times.
func rep(s string, n int) string { return strings.Repeat(s, n) }

// long is a domain of n bytes, with labels of 63 letters, but the last one.
func long(n int) string {
	return rep(rep("a", 63)+".", n/64) + rep("b", n%64)
}

// odd are texts that are easily mistaken.
var odd = []string{
	"", "@", ".", "\"", "\\", "-", " ", "<", ">", "<>", "a", "a@", "@a", "a@a", "a@a.", "a@.a", "a@-", "a@a-", "a@a-.a", "a@a--a", "a@1", "a@@a",
	"a.@a", ".a@a", "a..a@a", "a.a.a@a.a.a", "\"\"@a", "\"a\"@a", "\"a\"b@a", "a\"b\"@a", "\"a\".b@a", "\"a\"\"b\"@a", "\"a@b\"@a", "\"\\\"\"@a",
	"\"\\\\\"@a", "\"\\a\"@a", "\"\\", "\"ä\"@a", "ä@a", "a@ä", "a@a\xff", "\xff@a", "a\ufffd@a", "\"\x7f\"@a", "\"\x1f\"@a", "\"\t\"@a", "a b@a",
	"a@a b", " a@a", "a@a ", "a@a\r\n", "a@[1.2.3.4]", "a@a_b", "A@A", "Bob.x@Mail.Example", "a,b@c", "(a)@b", "a@b>", "\"a>b\"@c", "a\x00@b",
	rep("a", 64) + "@a", rep("a", 65) + "@a", "a@" + rep("a", 63), "a@" + rep("a", 64), "a@" + rep("a", 62) + "-", "a@" + long(255), "a@" + long(257),
	"\"" + rep("\\\\", 64) + "\"@a", "\"" + rep("a", 2000) + "\"@a", rep("a", 2000), rep("a.", 2000), "a@" + rep("a.", 2000) + "a", rep("\"", 2000), rep("@", 2000),
}

// some is a random text of up to n pieces of which addresses are made, the same in each run of the tests.
func some(r *rand.Rand, n int) string {
	pieces := []string{
		"a", "B", "0", ".", ".", "@", "@", "\"", "\"", "\\", "-", "-", " ", "<", ">", "~", "ä", "\xff", "\x7f", "a@b", "\"a\"@",
		rep("c", 61), rep("d", 62), rep("e", 63),
	}
	var b strings.Builder
	for range r.Intn(n + 1) {
		b.WriteString(pieces[r.Intn(len(pieces))])
	}
	return b.String()
}

// few goes through all texts of up to n of these letters.
func few(n int, do func(s string)) {
	var behind func(s string, n int)
	behind = func(s string, n int) {
		do(s)
		for _, l := range []string{"a", "Z", ".", "@", "\"", "\\", "-", " ", ">"} {
			if n > 0 {
				behind(s+l, n-1)
			}
		}
	}
	behind("", n)
}

// P3.1
func TestParse(t *testing.T) {
	for s, want := range map[string]api.Addr{
		"Bob.x@Mail.Example":               {Local: "Bob.x", Domain: "mail.example"},
		"a@b":                              {Local: "a", Domain: "b"},
		"a.b.c@d.e.f":                      {Local: "a.b.c", Domain: "d.e.f"},
		"!#$%&'*+-/=?^_`{|}~@b":            {Local: "!#$%&'*+-/=?^_`{|}~", Domain: "b"},
		"-@b":                              {Local: "-", Domain: "b"},
		"-.-@b":                            {Local: "-.-", Domain: "b"},
		"azAZ09@AZaz09":                    {Local: "azAZ09", Domain: "azaz09"},
		"0@0":                              {Local: "0", Domain: "0"},
		"a@1.2.3.4":                        {Local: "a", Domain: "1.2.3.4"},
		"a@b-c":                            {Local: "a", Domain: "b-c"},
		"a@b--c.D-E":                       {Local: "a", Domain: "b--c.d-e"},
		`"a"@b`:                            {Local: "a", Domain: "b"},
		`"Bob"@Here`:                       {Local: "Bob", Domain: "here"},
		`"a b"@c`:                          {Local: "a b", Domain: "c"},
		`" "@c`:                            {Local: " ", Domain: "c"},
		`"~!"@c`:                           {Local: "~!", Domain: "c"},
		`"a\"b"@c`:                         {Local: `a"b`, Domain: "c"},
		`"\\"@c`:                           {Local: `\`, Domain: "c"},
		`"\\\""@c`:                         {Local: `\"`, Domain: "c"},
		`"a@b"@c`:                          {Local: "a@b", Domain: "c"},
		`"..@"@c.d`:                        {Local: "..@", Domain: "c.d"},
		`"<>,()[]"@c`:                      {Local: "<>,()[]", Domain: "c"},
		`""@c`:                             {Local: "", Domain: "c"},
		rep("a", 64) + "@b":                {Local: rep("a", 64), Domain: "b"},
		rep("a.", 31) + "ab@b":             {Local: rep("a.", 31) + "ab", Domain: "b"},
		`"` + rep(" ", 64) + `"@b`:         {Local: rep(" ", 64), Domain: "b"},
		`"` + rep(`\\`, 64) + `"@b`:        {Local: rep(`\`, 64), Domain: "b"},
		"a@" + rep("B", 63):                {Local: "a", Domain: rep("b", 63)},
		"a@b." + rep("c", 63) + ".d":       {Local: "a", Domain: "b." + rep("c", 63) + ".d"},
		"a@" + rep("b", 61) + "-c":         {Local: "a", Domain: rep("b", 61) + "-c"},
		"a@b" + rep("-", 61) + "c":         {Local: "a", Domain: "b" + rep("-", 61) + "c"},
		"a@" + long(255):                   {Local: "a", Domain: long(255)},
		"a@" + rep("b.", 127) + "C":        {Local: "a", Domain: rep("b.", 127) + "c"},
		rep("a", 64) + "@" + long(255):     {Local: rep("a", 64), Domain: long(255)},
		`"` + rep(`\"`, 64) + `"@` + "A.B": {Local: rep(`"`, 64), Domain: "a.b"},
	} {
		if a, at, e := addr.Parse(s); a != want || at != 0 || e != api.OK {
			t.Errorf("Parse(%.40q) = %.40q, %d, %d", s, a, at, e)
		}
	}
}

// fails asks Parse of a text that is no address.
func fails(t *testing.T, s string, place int, want api.Errno) {
	t.Helper()
	if a, at, e := addr.Parse(s); a != (api.Addr{}) || at != place || e != want {
		t.Errorf("Parse(%.40q) = %.40q, %d, %d, want %d, %d", s, a, at, e, place, want)
	}
}

// P3.1: a letter with which no address goes on.
func TestParseForm(t *testing.T) {
	for s, at := range map[string]int{
		"a..b@c": 2, ".a@b": 0, "@": 0, "@a": 0, " a@b": 0, "ä@b": 0, "\xff@b": 0, "\ufffd": 0, "\\": 0, "(": 0, "<a@b>": 0, "\x00": 0, ",": 0,
		"a b@c": 1, "aä@b": 1, "a\xff": 1, "a\"b\"@c": 1, "a\\@b": 1, "a.@b": 2, "a.\"b\"@c": 2, "a,b": 1, "a:b": 1, "a;b": 1, "a[b": 1, "a]b": 1, "a)b": 1,
		"a\x7f": 1, "a>": 1, "a\u0141@b": 1, // the lowest byte of the letter alone would be an A
		"\"a\"b@c": 3, "\"a\".b@c": 3, "\"a\" @c": 3, "\"a\"\"@c": 3, "\"\\a\"@b": 2, "\"\\ \"@b": 2, "\"\\ä": 2, "\"ä\"@b": 1,
		"\"\xff\"@b": 1, "\"\x7f\"@b": 1, "\"\x1f\"@b": 1, "\"\t\"@b": 1, "\"a\r\n\"@b": 2, "\"\u0080\"@b": 1, "\"\ufffd": 1,
		"a@-b": 2, "a@.b": 2, "a@@b": 2, "a@ b": 2, "a@[1.2.3.4]": 2, "a@\"b\"": 2, "a@ä": 2, "a@\xff": 2, "a@_b": 2,
		"a@b..c": 4, "a@b-.c": 4, "a@b.-c": 4, "a@b@c": 3, "a@b c": 3, "a@b ": 3, "a@b>": 3, "a@b_c": 3, "a@bä": 3, "a@b\xff": 3, "a@b\x00": 3, "a@b\r\n": 3,
		"a@b- c": 4, "a@b-@": 4, "a@b\u0131": 3, "a@\u212a": 2,
		"a@" + rep("b", 64):                     65, // its letter behind MaxLabel
		"a@" + rep("b", 64) + ".c":              65,
		"a@" + rep("b", 63) + "-":               65,
		"a@" + rep("b", 63) + "ä":               65,
		"a@c." + rep("b", 70):                   67,
		"a@" + rep("b", 62) + "-":               64, // there is no room for a letter behind that -
		"a@" + rep("b", 62) + "-c":              64,
		"a@" + rep("b", 62) + "-.c":             64,
		"a@b" + rep("-", 63):                    64,
		rep("a", 100) + "..b@c":                 101, // the form is told, not the limit
		rep("a", 65) + "@-":                     66,
		"a@" + long(300) + "..":                 303,
		"\"" + rep("a", 3000) + "\"x":           3002,
		"\"" + rep("a", 3000) + "\x7f" + "\"@b": 3001,
	} {
		fails(t, s, at, api.ErrForm)
	}
}

// P3.1: too short, or too long.
func TestParseShortAndLimit(t *testing.T) {
	for s, at := range map[string]int{
		"": 0, "a": 1, "a.": 2, "a.b": 3, "a@": 2, "a@b.": 4, "a@b-": 4, "a@b.c-": 6, "\"": 1, "\"\"": 2, "\"a": 2, "\"a\\": 3, "\"a\\\"": 4, "\"a\"": 3, "\"a\"@": 4,
		"a@" + rep("b", 61) + "-":    64,
		"a@" + rep("b", 63) + ".":    66,
		rep("a", 1000):               1000, // too long or not: it ends too early
		rep("a", 1000) + "@":         1001,
		"a@" + rep("b.", 500):        1002,
		"\"" + rep("a", 3000):        3001,
		"\"" + rep("a", 3000) + "\"": 3002,
	} {
		fails(t, s, at, api.ErrShort)
	}
	for _, s := range []string{
		rep("a", 65) + "@b",
		rep("a.", 32) + "a@b",
		`"` + rep("a", 65) + `"@b`,
		`"` + rep(`\"`, 65) + `"@b`,
		`"` + rep("a", 1024) + `"@b`,
		`"` + rep("a", 1025) + `"@b`, // of any length, longer than what text.Quote writes too
		`"` + rep(`\\`, 5000) + `"@b`,
		rep("a", 100000) + "@b",
		"a@" + long(256) + "a",
		"a@" + rep("b.", 127) + "bc",
		"a@" + rep("b.", 128) + "b",
		"a@" + rep(rep("b", 63)+".", 1000) + "b",
		rep("a", 65) + "@" + rep("b.", 128) + "b",
	} {
		fails(t, s, 0, api.ErrLimit)
	}
}

// P3.1: which letters may stand where, each of the first 256 and some others.
func TestParseLetters(t *testing.T) {
	letters := []string{"\ufffd", "\u0130", "\u0141", "\u2028", "\U00010041", "\xc3", "\xed\xa0\x80"}
	for b := range 256 {
		letters = append(letters, string([]byte{byte(b)}), string(rune(b)))
	}
	for _, l := range letters {
		for _, s := range []string{l + "@b", "a" + l + "@b", "a." + l + "@b", "a" + l + "a@b", "\"" + l + "\"@b", "\"\\" + l + "\"@b", "\"a\"" + l, "\"a\"" + l + "b",
			"a@" + l, "a@" + l + "b", "a@b" + l, "a@b" + l + "b", "a@b." + l + "b", "a@b-" + l + "b"} {
			if _, _, e := addr.Parse(s); (e == api.OK) != wholeForm.MatchString(s) {
				t.Errorf("Parse(%q): %d", s, e)
			}
		}
	}
}

// check holds what Parse tells of a text against what an address is, and its place against what goes on to one.
func check(t *testing.T, s string) {
	t.Helper()
	a, at, e := addr.Parse(s)
	if e != api.OK && a != (api.Addr{}) {
		t.Fatalf("Parse(%.40q) tells %.40q beside an error", s, a)
	}
	if whole := wholeForm.MatchString(s); whole != (e == api.OK || e == api.ErrLimit) || whole && at != 0 {
		t.Fatalf("Parse(%.40q) = %d, %d", s, at, e)
	}
	letters := []rune(s)
	switch e {
	case api.ErrShort:
		if at != len(letters) || !begins(s) {
			t.Fatalf("Parse(%.40q) is short, and %d", s, at)
		}
	case api.ErrForm:
		if at < 0 || at >= len(letters) || !begins(string(letters[:at])) || begins(s[:at+1]) {
			t.Fatalf("Parse(%.40q) has a fault at %d", s, at)
		}
	}
	for end := range at { // all the beginnings up to that place
		if !begins(s[:end]) {
			t.Fatalf("Parse(%.40q) = %d, %d, but its first %d bytes go on to none", s, at, e, end)
		}
	}
}

// P3.4
func TestParsePlace(t *testing.T) {
	few(5, func(s string) { check(t, s) })
	for _, s := range odd {
		check(t, s)
	}
	r := rand.New(rand.NewSource(34))
	for range 4000 {
		check(t, some(r, 8))
		check(t, "a@"+some(r, 4))
		check(t, "\""+some(r, 4)+"\"@a")
	}
}

// P3.2, Print
func TestPrint(t *testing.T) {
	for a, want := range map[api.Addr]string{
		{Local: "a b", Domain: "c"}:                 `"a b"@c`,
		{Local: "a", Domain: "b"}:                   "a@b",
		{Local: "Bob.x", Domain: "mail.example"}:    "Bob.x@mail.example",
		{Local: "!#$%&'*+-/=?^_`{|}~", Domain: "b"}: "!#$%&'*+-/=?^_`{|}~@b",
		{Local: ".", Domain: "b"}:                   `"."@b`,
		{Local: ".a", Domain: "b"}:                  `".a"@b`,
		{Local: "a.", Domain: "b"}:                  `"a."@b`,
		{Local: "a..b", Domain: "c"}:                `"a..b"@c`,
		{Local: "a@b", Domain: "c"}:                 `"a@b"@c`,
		{Local: "a@", Domain: "c"}:                  `"a@"@c`,
		{Local: "@", Domain: "c"}:                   `"@"@c`,
		{Local: " ", Domain: "c"}:                   `" "@c`,
		{Local: `"`, Domain: "c"}:                   `"\""@c`,
		{Local: `""`, Domain: "c"}:                  `"\"\""@c`,
		{Local: `\`, Domain: "c"}:                   `"\\"@c`,
		{Local: `"a b"@c`, Domain: "d"}:             `"\"a b\"@c"@d`,
		{Local: "<>(),:;[]", Domain: "c"}:           `"<>(),:;[]"@c`,
		{Local: "~", Domain: "1.2-3"}:               "~@1.2-3",
		{Local: rep("a", 64), Domain: long(255)}:    rep("a", 64) + "@" + long(255),
		{Local: rep(`\`, 64), Domain: "b"}:          `"` + rep(`\\`, 64) + `"@b`,
		{Local: "a", Domain: rep("b", 63)}:          "a@" + rep("b", 63),
	} {
		if s, e := addr.Print(a); s != want || e != api.OK {
			t.Errorf("Print(%.40q) = %.40q, %d", a, s, e)
		}
	}
}

// P3.2, Print
func TestPrintFaults(t *testing.T) {
	for a, want := range map[api.Addr]api.Errno{
		{}:                                          api.ErrForm,
		{Domain: "a"}:                               api.ErrForm,
		{Local: "a"}:                                api.ErrForm,
		{Local: "ä", Domain: "b"}:                   api.ErrForm,
		{Local: "a\x7f", Domain: "b"}:               api.ErrForm,
		{Local: "\x1f", Domain: "b"}:                api.ErrForm,
		{Local: "a\r\n", Domain: "b"}:               api.ErrForm,
		{Local: "a\xff", Domain: "b"}:               api.ErrForm,
		{Local: "\ufffd", Domain: "b"}:              api.ErrForm,
		{Local: "\x00", Domain: "b"}:                api.ErrForm,
		{Local: "a", Domain: "B"}:                   api.ErrForm,
		{Local: "a", Domain: "b.cD"}:                api.ErrForm,
		{Local: "a", Domain: "-b"}:                  api.ErrForm,
		{Local: "a", Domain: "b-"}:                  api.ErrForm,
		{Local: "a", Domain: "b-.c"}:                api.ErrForm,
		{Local: "a", Domain: "."}:                   api.ErrForm,
		{Local: "a", Domain: ".b"}:                  api.ErrForm,
		{Local: "a", Domain: "b."}:                  api.ErrForm,
		{Local: "a", Domain: "b..c"}:                api.ErrForm,
		{Local: "a", Domain: "b@c"}:                 api.ErrForm,
		{Local: "a", Domain: "@c"}:                  api.ErrForm,
		{Local: "a", Domain: "b_c"}:                 api.ErrForm,
		{Local: "a", Domain: "b c"}:                 api.ErrForm,
		{Local: "a", Domain: "ä"}:                   api.ErrForm,
		{Local: "a", Domain: "b\xff"}:               api.ErrForm,
		{Local: "a", Domain: "b\n"}:                 api.ErrForm,
		{Local: "a", Domain: rep("b", 64)}:          api.ErrForm, // no label, and so no domain
		{Local: rep("a", 65), Domain: "B"}:          api.ErrForm, // the form is named ahead of the limit
		{Local: rep("a", 65) + "\n"}:                api.ErrForm,
		{Local: "ä", Domain: long(300)}:             api.ErrForm,
		{Local: rep("a", 65), Domain: "b"}:          api.ErrLimit,
		{Local: rep(" ", 65), Domain: "b"}:          api.ErrLimit,
		{Local: rep("\"", 9e5), Domain: "b"}:        api.ErrLimit,
		{Local: "a", Domain: long(257)}:             api.ErrLimit,
		{Local: "a", Domain: rep("b.", 127) + "bc"}: api.ErrLimit,
		{Local: "a", Domain: rep("b.", 9e5) + "b"}:  api.ErrLimit,
	} {
		if s, e := addr.Print(a); s != "" || e != want {
			t.Errorf("Print(%.40q) = %.40q, %d, want %d", a, s, e, want)
		}
	}
}

// P3.2, Path
func TestPath(t *testing.T) {
	for s, want := range map[string]struct {
		a    api.Addr
		rest string
	}{
		"<>":                           {api.Addr{}, ""},
		"<> SIZE=1":                    {api.Addr{}, " SIZE=1"},
		"<><a@b>":                      {api.Addr{}, "<a@b>"},
		"<>>":                          {api.Addr{}, ">"},
		"<a@b>":                        {api.Addr{Local: "a", Domain: "b"}, ""},
		"<Bob@Here> SIZE=12":           {api.Addr{Local: "Bob", Domain: "here"}, " SIZE=12"},
		"<a@b>>":                       {api.Addr{Local: "a", Domain: "b"}, ">"},
		"<a@b><c@d>":                   {api.Addr{Local: "a", Domain: "b"}, "<c@d>"},
		"<a@b>\xff\x00ä":               {api.Addr{Local: "a", Domain: "b"}, "\xff\x00ä"},
		`<"a>b"@c>d`:                   {api.Addr{Local: "a>b", Domain: "c"}, "d"},
		`<">"@c>`:                      {api.Addr{Local: ">", Domain: "c"}, ""},
		`<"<a@b>"@c> "x>"@y>`:          {api.Addr{Local: "<a@b>", Domain: "c"}, ` "x>"@y>`},
		`<"\">\\"@c>>`:                 {api.Addr{Local: `">\`, Domain: "c"}, ">"},
		"<" + rep("a", 64) + "@b>":     {api.Addr{Local: rep("a", 64), Domain: "b"}, ""},
		"<a@" + long(255) + ">" + "<>": {api.Addr{Local: "a", Domain: long(255)}, "<>"},
	} {
		if a, rest, e := addr.Path(s); a != want.a || rest != want.rest || e != api.OK {
			t.Errorf("Path(%.40q) = %.40q, %.40q, %d", s, a, rest, e)
		}
	}
}

// P3.2, Path
func TestPathFaults(t *testing.T) {
	for _, s := range []string{
		"", "<", ">", "a@b", "a@b>", "<a@b", " <a@b>", "< a@b>", "<a@b >", "< >", "<<a@b>>", "<<>", "<a>", "<a@>", "<@b>", "<a@b.>", "<a@b->", "<a.@b>", "<a..b@c>",
		"<a@b@c>", "<ä@b>", "<a@ä>", "<a@b\xff>", "\xff<a@b>", "<\"a>", "<\"a\">", "<\"a\\>\"@b>", "<\"a>b\"@c", "<\"a>b@c>", "<a\">\"@b>", "<a@b,c@d>", "<@a:b@c>", "<a@[1]>",
		"<" + rep("a", 65) + "@b>", "<\"" + rep("a", 65) + "\"@b>", "<a@" + rep("b.", 128) + "b>", "<a@" + rep("b", 64) + ">", "<a@" + rep("b", 62) + "->",
		"\x00", "<\x00>", "<a@b\r\n>", rep("<", 3000), rep(">", 3000), "<" + rep("a", 3000), "<\"" + rep(">", 3000),
	} {
		if a, rest, e := addr.Path(s); a != (api.Addr{}) || rest != "" || e != api.ErrForm {
			t.Errorf("Path(%.40q) = %.40q, %.40q, %d", s, a, rest, e)
		}
	}
}

// P3.2: what Path takes is what Parse takes, up to the first > behind which it is not quoted.
func TestPathFollows(t *testing.T) {
	ask := func(s string) {
		a, rest, e := addr.Path("<" + s)
		for end := range len(s) {
			inner, _, wrong := addr.Parse(s[:end])
			if s[end] == '>' && (wrong == api.OK || end == 0) {
				if a != inner || rest != s[end+1:] || e != api.OK {
					t.Fatalf("Path(<%.40q) = %.40q, %.40q, %d", s, a, rest, e)
				}
				return
			}
		}
		if a != (api.Addr{}) || rest != "" || e != api.ErrForm {
			t.Fatalf("Path(<%.40q) = %.40q, %.40q, %d", s, a, rest, e)
		}
	}
	few(5, ask)
	r := rand.New(rand.NewSource(32))
	for _, s := range odd {
		ask(s)
		ask(s + ">")
		ask(s + ">>" + s)
	}
	for range 5000 {
		ask(some(r, 6) + ">" + some(r, 3))
		ask("\"" + some(r, 4) + "\"@b>")
	}
}

// P3.2, Same
func TestSame(t *testing.T) {
	for _, c := range []struct {
		a, b api.Addr
		want bool
	}{
		{api.Addr{}, api.Addr{}, true},
		{api.Addr{Local: "a", Domain: "b"}, api.Addr{Local: "a", Domain: "b"}, true},
		{api.Addr{Local: "a", Domain: "b.C"}, api.Addr{Local: "a", Domain: "B.c"}, true},
		{api.Addr{Local: "a", Domain: "b"}, api.Addr{Local: "A", Domain: "b"}, false}, // of the local part great and small letters are others
		{api.Addr{Local: "a", Domain: "b"}, api.Addr{Local: "a", Domain: "c"}, false},
		{api.Addr{Local: "a", Domain: "b"}, api.Addr{Local: "c", Domain: "b"}, false},
		{api.Addr{Local: "a", Domain: ""}, api.Addr{Local: "", Domain: "a"}, false},
		{api.Addr{Local: "a"}, api.Addr{}, false},
		{api.Addr{Domain: "a"}, api.Addr{}, false},
		{api.Addr{Local: "a", Domain: "k"}, api.Addr{Local: "a", Domain: "\u212a"}, false},
		{api.Addr{Local: "\xff", Domain: "\xffA"}, api.Addr{Local: "\xff", Domain: "\xffa"}, true},
		{api.Addr{Local: "\xff", Domain: "\xff"}, api.Addr{Local: "\xff", Domain: "\ufffd"}, false},
		{api.Addr{Local: "a@b", Domain: "c"}, api.Addr{Local: "a", Domain: "b@c"}, false},
	} {
		if addr.Same(c.a, c.b) != c.want || addr.Same(c.b, c.a) != c.want {
			t.Errorf("Same(%q, %q) is not %v", c.a, c.b, c.want)
		}
	}
}

// P3.2, User
func TestUser(t *testing.T) {
	for a, want := range map[api.Addr]string{
		{}:                                  "",
		{Local: "Bob.X", Domain: "Here"}:    "bob.x",
		{Local: "bob"}:                      "bob",
		{Domain: "A"}:                       "",
		{Local: "A b\"C", Domain: "d"}:      "a b\"c",
		{Local: "Ä\xffA", Domain: "d"}:      "Ä\xffa",
		{Local: rep("Z", 3000), Domain: ""}: rep("z", 3000),
	} {
		if got := addr.User(a); got != want {
			t.Errorf("User(%.40q) = %.40q", a, got)
		}
	}
}

// again holds an address that Parse or Print took against what becomes of it by the other one.
func again(t *testing.T, a api.Addr) {
	t.Helper()
	s, e := addr.Print(a)
	if e != api.OK {
		if a.Local != "" { // of an empty one, which Parse takes between signs, Print tells ErrForm
			t.Fatalf("Print(%.40q): %d", a, e)
		}
		return
	}
	if back, at, e := addr.Parse(s); back != a || at != 0 || e != api.OK {
		t.Fatalf("Parse of Print(%.40q) = %.40q, %d, %d", a, back, at, e)
	}
	if back, rest, e := addr.Path("<" + s + "> x"); back != a || rest != " x" || e != api.OK {
		t.Fatalf("Path of Print(%.40q) = %.40q, %.40q, %d", a, back, rest, e)
	}
}

// P3.3: Print of what Parse takes is taken again as the same.
func TestPrintOfParse(t *testing.T) {
	ask := func(s string) {
		if a, _, e := addr.Parse(s); e == api.OK {
			again(t, a)
		}
	}
	few(6, ask)
	for _, s := range odd {
		ask(s)
	}
	r := rand.New(rand.NewSource(33))
	for range 20000 {
		ask(some(r, 5) + "@" + some(r, 3))
		ask("\"" + some(r, 5) + "\"@" + some(r, 3))
	}
}

// P3.3: Parse of Print is the address; and P3.2: which ones are printed, and how.
func TestParseOfPrint(t *testing.T) {
	ask := func(a api.Addr) {
		s, e := addr.Print(a)
		form := a.Local != "" && strings.Trim(a.Local, " !\"#$%&'()*+,-./0123456789:;<=>?@ABCDEFGHIJKLMNOPQRSTUVWXYZ[\\]^_`abcdefghijklmnopqrstuvwxyz{|}~") == "" && leastDomain.MatchString(a.Domain)
		switch {
		case !form:
			if s != "" || e != api.ErrForm {
				t.Fatalf("Print(%.40q) = %.40q, %d", a, s, e)
			}
			return
		case len(a.Local) > 64 || len(a.Domain) > 255:
			if s != "" || e != api.ErrLimit {
				t.Fatalf("Print(%.40q) = %.40q, %d", a, s, e)
			}
			return
		}
		want := a.Local
		if !plainLocal.MatchString(want) {
			want, _, _ = text.Quote(want)
		}
		if s != want+"@"+a.Domain || e != api.OK {
			t.Fatalf("Print(%.40q) = %.40q, %d", a, s, e)
		}
		again(t, a)
	}
	r := rand.New(rand.NewSource(3))
	few(5, func(s string) {
		ask(api.Addr{Local: s, Domain: "a"})
		ask(api.Addr{Local: "a", Domain: s})
		ask(api.Addr{Local: "a", Domain: text.Lower(s)})
	})
	for _, a := range odd {
		for _, b := range odd {
			ask(api.Addr{Local: a, Domain: b})
		}
	}
	for range 20000 {
		ask(api.Addr{Local: some(r, 5), Domain: text.Lower(some(r, 3))})
	}
}

// P1, P2, P6: each call ends, tells nothing beside an error, and tells the same again, whatever was asked in between.
func TestTextsOfAnyBytes(t *testing.T) {
	r := rand.New(rand.NewSource(1))
	texts := append([]string{rep("\xff", 1<<20), rep("a", 1<<20), "\"" + rep("\\\"", 1<<20), "<\"" + rep(">", 1<<20), "a@" + rep("a.", 1<<20), rep("<", 1<<20)}, odd...)
	for range 5000 {
		b := make([]byte, r.Intn(12))
		r.Read(b)
		texts = append(texts, string(b), "<"+string(b)+">", "\""+string(b)+"\"@a", "a@"+string(b))
	}
	type told struct {
		parsed, inner        api.Addr
		at                   int
		rest, printed, user  string
		parse, path, print   api.Errno
		alike, other, oddOne bool
	}
	ask := func(s string) (x told) {
		x.parsed, x.at, x.parse = addr.Parse(s)
		x.inner, x.rest, x.path = addr.Path(s)
		a := api.Addr{Local: s, Domain: s}
		x.printed, x.print = addr.Print(a)
		x.user = addr.User(a)
		x.alike, x.other, x.oddOne = addr.Same(a, a), addr.Same(a, x.parsed), addr.Same(x.inner, a)
		return x
	}
	var first []told
	for _, s := range texts {
		x := ask(s)
		if x.parse != api.OK && x.parsed != (api.Addr{}) || x.path != api.OK && (x.inner != (api.Addr{}) || x.rest != "") || x.print != api.OK && x.printed != "" || !x.alike {
			t.Errorf("of %.30q another thing is told than may be", s)
		}
		first = append(first, x)
	}
	for i := len(texts) - 1; i >= 0; i-- {
		if ask(texts[i]) != first[i] {
			t.Errorf("of %.30q another thing is told the second time", texts[i])
		}
	}
}
