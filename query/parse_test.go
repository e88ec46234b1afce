package query_test

import (
	"math/rand"
	"regexp"
	"slices"
	"strconv"
	"strings"
	"testing"
	"time"

	"pigeonhole/api"
	"pigeonhole/query"
)

// parses holds what Parse tells of a text against what is wanted.
func parses(t *testing.T, s string, want ...api.Key) {
	t.Helper()
	if l, e := query.Parse(s); !slices.Equal(l, want) || e != api.OK {
		t.Errorf("Parse(%.300q) = %v, %d, want %v", s, l, e, want)
	}
}

// refuses holds the error that Parse tells of a text against what is wanted.
func refuses(t *testing.T, want api.Errno, s string) {
	t.Helper()
	if l, e := query.Parse(s); len(l) != 0 || e != want {
		t.Errorf("Parse(%.300q) = %v, %d, want %d", s, l, e, want)
	}
}

// prints holds what Print tells of a question against what is wanted.
func prints(t *testing.T, want string, l ...api.Key) {
	t.Helper()
	if s, e := query.Print(l); s != want || e != api.OK {
		t.Errorf("Print(%v) = %.900q, %d, want %.900q", l, s, e, want)
	}
	parses(t, want, l...)
	parses(t, "("+want+")", l...)
}

// P19.2: what a leaf is printed as, and that this is parsed.
func TestLeaves(t *testing.T) {
	for want, k := range map[string]api.Key{
		"ALL": all, "SEEN": has(1), "ANSWERED": has(2), "FLAGGED": has(4), "DELETED": has(8), "DRAFT": has(16), "UNSEEN": lacks(1), "UNANSWERED": lacks(2), "UNFLAGGED": lacks(4), "UNDELETED": lacks(8), "UNDRAFT": lacks(16),
		"LARGER 0": size(api.KeyLarger, 0), "LARGER 4294967295": size(api.KeyLarger, top), "SMALLER 10": size(api.KeySmaller, 10), "SMALLER 4294967295": size(api.KeySmaller, top),
		"1": numbers("1"), "*": numbers("*"), "5:3,*:1,2": numbers("5:3,*:1,2"), "*:*,4294967295": numbers("*:*,4294967295"), rep("1,", 31) + "*": numbers(rep("1,", 31) + "*"), "UID 1:*": uids("1:*"), "UID 7": uids("7"),
		"SENTBEFORE 1-Jan-1970": dated(api.KeyBefore, 1970, 1, 1), "SENTON 29-Feb-2000": dated(api.KeyOn, 2000, 2, 29), "SENTSINCE 9-Mar-0001": dated(api.KeySince, 1, 3, 9), "SENTSINCE 1-Jan-0001": dated(api.KeySince, 1, 1, 1), "SENTSINCE 31-Dec-9999": dated(api.KeySince, 9999, 12, 31), "SENTON 10-Oct-0987": dated(api.KeyOn, 987, 10, 10),
		`FROM "bob"`: field("from", "bob"), `TO ""`: field("to", ""), `CC "a b"`: field("cc", "a b"), `SUBJECT "\"\\ä)("`: field("subject", "\"\\ä)("), `HEADER From "bob"`: field("From", "bob"), `HEADER bcc "x"`: field("bcc", "x"), `HEADER SUBJECT "x"`: field("SUBJECT", "x"), `HEADER tO ""`: field("tO", ""), `HEADER date "x"`: field("date", "x"),
		`HEADER X-!#$&'+,-./0;<=>?@~[ "x"`: field("X-!#$&'+,-./0;<=>?@~[", "x"), `HEADER or "x"`: field("or", "x"), `HEADER ` + rep("n", 24) + ` "` + rep(`\"`, 1024) + `"`: field(rep("n", 24), rep(`"`, 1024)),
		`BODY "x"`: said(api.KeyBody, "x"), `BODY ""`: said(api.KeyBody, ""), `TEXT "NOT"`: said(api.KeyText, "NOT"), `TEXT "` + rep("x", 1024) + `"`: said(api.KeyText, rep("x", 1024)),
	} {
		prints(t, want, k)
	}
	for _, k := range leaves { // P19.5
		s, e := query.Print(of(k))
		if e != api.OK {
			t.Errorf("Print(%v) is told %d", k, e)
		}
		parses(t, s, k)
	}
}

// P19.2: all months, and days below 10 and from it on.
func TestDays(t *testing.T) {
	for at := time.Date(1995, 12, 1, 0, 0, 0, 0, time.UTC); at.Year() < 1998; at = at.AddDate(0, 0, 1) {
		k := dated(api.KeyOn, at.Year(), int(at.Month()), at.Day())
		prints(t, at.Format("SENTON 2-Jan-2006"), k)
		parses(t, strings.ToUpper(at.Format("SENTON 02-Jan-2006")), k)
		parses(t, strings.ToLower(at.Format("SENTON 2-Jan-2006")), k)
	}
}

// P19.2: other texts of leaves.
func TestParseLeaves(t *testing.T) {
	for s, k := range map[string]api.Key{
		"seen": has(1), "SeEn": has(1), "uNdRaFt": lacks(16), "all": all, "aLL": all, "larger 5": size(api.KeyLarger, 5), "Smaller 5": size(api.KeySmaller, 5), "uid 5": uids("5"), "sentbefore 01-feb-1994": dated(api.KeyBefore, 1994, 2, 1), "sentSINCE 1-FEB-1994": dated(api.KeySince, 1994, 2, 1),
		"from bob": field("from", "bob"), "FROM Bob": field("from", "Bob"), "fROM (": {}, "To bob@here": field("to", "bob@here"), "cC x": field("cc", "x"), "subject hello!": field("subject", "hello!"), "subject [x": field("subject", "[x"), "header From BOB": field("From", "BOB"), "Header x y": field("x", "y"), `header a "b c"`: field("a", "b c"),
		"body from": said(api.KeyBody, "from"), "text text": said(api.KeyText, "text"), "body 1:*": {}, "body 1": said(api.KeyBody, "1"), "body NIL": said(api.KeyBody, "NIL"), "body " + rep("x", 1024): said(api.KeyBody, rep("x", 1024)), "text }": said(api.KeyText, "}"), "text '": said(api.KeyText, "'"),
	} {
		if k == (api.Key{}) {
			refuses(t, api.ErrForm, s)
			continue
		}
		parses(t, s, k)
		parses(t, "(((("+s+"))))", k)
		parses(t, "not "+s, k, not)
		parses(t, "Or "+s+" "+s, k, k, or)
		parses(t, s+" "+s+" ("+s+")", k, k, and, k, and)
	}
}

// P19.2, Examples 1 and 2: keys that take others.
func TestNests(t *testing.T) {
	a, b, c, d := has(1), has(2), numbers("3"), said(api.KeyText, "d")
	parses(t, "unseen (or from bob larger 5)", lacks(1), field("from", "bob"), size(api.KeyLarger, 5), or, and)
	prints(t, "SEEN", a)
	prints(t, "(SEEN ANSWERED)", a, b, and)
	prints(t, "(SEEN ANSWERED 3)", a, b, and, c, and)
	prints(t, "(SEEN ANSWERED 3 TEXT \"d\")", a, b, and, c, and, d, and)
	prints(t, "(SEEN (ANSWERED 3))", a, b, c, and, and)
	prints(t, "(SEEN ANSWERED (3 TEXT \"d\"))", a, b, and, c, d, and, and)
	prints(t, "(SEEN (ANSWERED 3) TEXT \"d\")", a, b, c, and, and, d, and)
	prints(t, "(SEEN (ANSWERED (3 TEXT \"d\")))", a, b, c, d, and, and, and)
	prints(t, "(SEEN (ANSWERED 3 TEXT \"d\"))", a, b, c, and, d, and, and)
	prints(t, "OR SEEN ANSWERED", a, b, or)
	prints(t, "OR OR SEEN ANSWERED 3", a, b, or, c, or)
	prints(t, "OR SEEN OR ANSWERED 3", a, b, c, or, or)
	prints(t, "OR (SEEN ANSWERED) (3 TEXT \"d\")", a, b, and, c, d, and, or)
	prints(t, "(OR SEEN ANSWERED OR 3 TEXT \"d\")", a, b, or, c, d, or, and)
	prints(t, "NOT SEEN", a, not)
	prints(t, "NOT NOT SEEN", a, not, not)
	prints(t, "NOT (SEEN ANSWERED)", a, b, and, not)
	prints(t, "(NOT (SEEN ANSWERED) 3)", a, b, and, not, c, and)
	prints(t, "(SEEN NOT ANSWERED)", a, b, not, and)
	prints(t, "(NOT SEEN ANSWERED)", a, not, b, and)
	prints(t, "NOT OR SEEN NOT ANSWERED", a, b, not, or, not)
	prints(t, "OR NOT SEEN ANSWERED", a, not, b, or)
	parses(t, "seen answered", a, b, and)
	parses(t, "(seen) (answered)", a, b, and)
	parses(t, "((seen) answered)", a, b, and)
	parses(t, "seen answered 3 text d", a, b, and, c, and, d, and)
	parses(t, "(seen answered) (3 text d)", a, b, and, c, d, and, and)
	parses(t, "or seen answered 3", a, b, or, c, and)
	parses(t, "not seen answered", a, not, b, and)
	parses(t, "or not seen answered not 3", a, not, b, or, c, not, and)
	parses(t, "((not ((seen))))", a, not)
	parses(t, "text d) "[:6]+" (seen)", d, a, and)
}

// P19.2: what is none.
func TestParseForm(t *testing.T) {
	for _, s := range []string{
		"", " ", "(", ")", "()", "( )", "(seen", "seen)", "(seen))", "((seen)", "( seen)", "(seen )", " seen", "seen ", "seen  answered", "seen\tanswered", "seen\r\n", "seen(answered)", "(seen)(answered)", "(seen)answered", "seen (", "seen )", "seen ()", "(seen)x", "seen,answered",
		"not", "not ", "not()", "not(seen)", "not  seen", "not )", "(not)", "(not )", "not not", "or", "or ", "or seen", "or seen ", "or seen)", "(or seen)", "(or seen )", "or  seen answered", "or seen  answered", "or(seen answered)", "or (seen answered)", "or (seen)(answered)", "and", "seen and answered", "nots seen",
		"x", "un", "unun", "unall", "ununseen", "unlarger 1", "seenx", "se", "recent", "new", "old", "keyword x", "bcc x", "on 1-Jan-1970", "before 1-Jan-1970", "since 1-Jan-1970", "unsentbefore 1-Jan-1970", "ſeen", "SEEN\x00", "all&all", "\xff", "\"seen\"", "from \"x\"y",
		"larger", "larger ", "larger x", "larger -1", "larger +1", "larger 01", "larger 4294967296", "larger  1", "larger 1x", "larger \"1\"", "larger 1,2", "larger *", "larger(1)", "(larger )", "smaller", "smaller )", "smaller 99999999999999999999999999",
		"0", "01", "1,", ",1", "1:", ":1", "1::2", "1:2:3", "1 :2", "1, 2", "4294967296", "1;2", "**", "1*", "-1", "+1", rep("1,", 32) + "1", "uid", "uid ", "uid x", "uid 0", "uid 1,", "uid uid 1", "uid (1)", "uid seen", "uid " + rep("1,", 32) + "1", "(uid )",
		"senton", "senton ", "senton x", "senton 1-Jan-19700", "senton 1-Jan-197", "senton 1 Jan 1970", "senton 30-Feb-2000", "senton 29-Feb-1900", "senton 0-Jan-1970", "senton 1-Jan-0000", "senton 001-Jan-1970", "senton  1-Jan-1970", "senton \"1-Jan-1970\"", "sentbefore Jan-1-1970", "sentsince 1-Jax-1970", "sentsince 1-Jan-1970 ", "sentsince (1-Jan-1970)",
		"from", "from ", "from )", "from (x)", "from x)", "from  x", "from \"x", "from \"", "from \"x\\\"", "from \"\\x\"", "from \"\t\"", "from \"\x7f\"", "from \"\xff\"", "from \"x\"\"y\"", "from x\"y\"", "from \"x\" ", "from \"x\")", "from x%", "from x*", "from x\\", "from x]", "from {1}", "from x(y", "from ä", "from x\ty", "from\"x\"", "from\t\"x\"", "from \"" + rep("x", 1025) + "\"",
		"header", "header ", "header x", "header x ", "header  x y", "header \"x\" y", "header x  y", "header (x) y", "header x (y)", "header x% y", "header \xff y", "header ) y", "header x) y", "body", "body ", "body (", "text", "text ", "text \"x", "text x] seen", "body[1]", "text x y",
		"header a:b x", "header " + rep("n", 25) + " x", "header : \"x\"", "body " + rep("x", 1025), // Check's error
		rep(" ", 1<<20), rep(")", 1<<20), rep("x", 1<<20), rep("1", 1<<20), rep("\"", 1<<20), "from " + rep("\"", 1<<20), "from \"" + rep("\\\"", 1<<19), "text " + rep("x", 1<<20), rep("seen ", 1<<18), rep("1,", 1<<19),
	} {
		refuses(t, api.ErrForm, s)
		refuses(t, api.ErrForm, "seen "+s)
		if len(s) < 2000 {
			refuses(t, api.ErrForm, rep("(", 40)+s+rep(")", 40))
		}
		refuses(t, api.ErrForm, s+rep(" (", 100)) // the first of both faults
	}
}

// P19.2: how deep things lie, and which fault counts.
func TestParseDeep(t *testing.T) {
	// 48 deep may be.
	parses(t, rep("(", 48)+"seen"+rep(")", 48), has(1))
	parses(t, rep("(", 48)+"1 2"+rep(")", 48)+" 3", numbers("1"), numbers("2"), and, numbers("3"), and)
	parses(t, rep("not ", 47)+"seen", append(of(has(1)), some(47, not)...)...)
	parses(t, rep("not ((", 16)+"seen"+rep("))", 16), append(of(has(1)), some(16, not)...)...)
	parses(t, rep("(or ", 23)+"1 2)"+rep(" 2)", 22), append(of(numbers("1"), numbers("2"), or), some(22, numbers("2"), or)...)...)
	// The text is one, but there are too many keys.
	refuses(t, api.ErrLimit, rep("not ", 48)+"seen")
	refuses(t, api.ErrLimit, rep("not ", 48)+"header a:b x") // Check's first
	// More is too much, whatever stands there.
	for _, s := range []string{"", "seen", "x", ")", "(", " ", "\xff", "not", "seen" + rep(")", 49), rep("(", 1<<20), rep("not ", 1<<18)} {
		refuses(t, api.ErrLimit, rep("(", 49)+s)
		refuses(t, api.ErrLimit, rep("not ", 49)+s)
		refuses(t, api.ErrLimit, rep("or ", 49)+s)
		refuses(t, api.ErrLimit, rep("not (or ", 16)+"("+s)
		refuses(t, api.ErrLimit, "seen (1) "+rep("(", 49)+s)
		refuses(t, api.ErrLimit, "header a:b x "+rep("(", 49)+s) // that is Check's to see
		refuses(t, api.ErrLimit, "body "+rep("x", 1025)+" "+rep("(", 49)+s)
	}
	// A place is there behind the blank.
	refuses(t, api.ErrForm, rep("not ", 48)+"not")
	refuses(t, api.ErrForm, rep("not ", 48)+"not)")
	refuses(t, api.ErrForm, rep("not ", 48)+"or")
	refuses(t, api.ErrForm, rep("(", 48)+"not(")
	refuses(t, api.ErrLimit, rep("not ", 48)+"not ")
	refuses(t, api.ErrLimit, rep("not ", 48)+"or ")
	// 48 deep, or ahead of what is deeper, it is the form that counts.
	for _, s := range []string{"", "x", ")", " ", "seen", "\xff", "nots seen"} {
		refuses(t, api.ErrForm, rep("(", 48)+s)
	}
	for _, s := range []string{"x", "header x% y", "header \"x\" y", "from x%", "larger 4294967296", "senton 30-Feb-2000", "uid 0", "01"} {
		refuses(t, api.ErrForm, s+" "+rep("(", 49))
	}
	refuses(t, api.ErrForm, "from \"x "+rep("(", 49))
	refuses(t, api.ErrForm, "seen "+rep("not ", 47)+"( "+rep("(", 49))
	// How long a question's text is says nothing of how deep it is.
	refuses(t, api.ErrLimit, "seen"+rep(" seen", 100))
	refuses(t, api.ErrLimit, "seen"+rep(" seen", 1<<18))
	refuses(t, api.ErrForm, "seen"+rep(" seen", 1<<18)+" ")
	refuses(t, api.ErrLimit, "header a:b x"+rep(" seen", 24))
	refuses(t, api.ErrForm, "header a:b x"+rep(" seen", 23))
	parses(t, "seen"+rep(" seen", 23), append(of(has(1)), some(23, has(1), and)...)...)
	parses(t, rep("(", 30)+"seen"+rep(")", 30)+" "+rep("(", 30)+"seen"+rep(")", 30), has(1), has(1), and)
	// Too many truths.
	parses(t, rep("or seen ", 7)+"seen", append(some(8, has(1)), some(7, or)...)...)
	refuses(t, api.ErrLimit, rep("or seen ", 8)+"seen")
	parses(t, rep("seen (", 7)+"seen"+rep(")", 7), append(some(8, has(1)), some(7, and)...)...)
	refuses(t, api.ErrLimit, rep("seen (", 8)+"seen"+rep(")", 8))
}

// setForm is a set's, as long as its numbers and parts are not too many.
const setForm = `(?:\*|[1-9][0-9]*)(?::(?:\*|[1-9][0-9]*))?(?:,(?:\*|[1-9][0-9]*)(?::(?:\*|[1-9][0-9]*))?)*`

// Of what leaves are made, said another way than the package does.
const (
	atomForm   = `[!#$&'+-Z\[^-z|}~]+`
	stringForm = `("(?:[^\x00-\x1f\x7f"\\]|\\["\\])*"|` + atomForm + `)`
	dayForm    = `([0-9][0-9]?)-([a-z]{3})-([0-9]{4})`
)

var leafForm = regexp.MustCompile(`(?i)^(?:(all)|(un)?(seen|answered|flagged|deleted|draft)|(larger|smaller) (0|[1-9][0-9]*)|(` + setForm + `)|uid (` + setForm + `)|(sentbefore|senton|sentsince) ` + dayForm + `|(from|to|cc|subject) ` + stringForm + `|header (` + atomForm + `) ` + stringForm + `|(body|text) ` + stringForm + `)([ )]|$)`)

// leafAgain is the leaf with which a text begins, and how many bytes it has; 0, if there is none.
func leafAgain(s string) (api.Key, int) {
	m := leafForm.FindStringSubmatch(s)
	if m == nil {
		return api.Key{}, 0
	}
	size := len(m[0]) - len(m[18])
	number := func(s string) int { n, _ := strconv.Atoi(s); return n }
	unquoted := func(s string) string {
		if strings.HasPrefix(s, `"`) {
			return regexp.MustCompile(`\\(.)`).ReplaceAllString(s[1:len(s)-1], "$1")
		}
		return s
	}
	switch {
	case m[1] != "":
		return all, size
	case m[3] != "":
		f := uint8(1 << slices.Index([]string{"seen", "answered", "flagged", "deleted", "draft"}, strings.ToLower(m[3])))
		if m[2] != "" {
			return lacks(f), size
		}
		return has(f), size
	case m[4] != "" && number(m[5]) > top:
		return api.Key{}, 0
	case strings.EqualFold(m[4], "larger"):
		return api.Key{Op: api.KeyLarger, N: number(m[5])}, size
	case m[4] != "":
		return api.Key{Op: api.KeySmaller, N: number(m[5])}, size
	case m[6] != "":
		return numbers(m[6]), size
	case m[7] != "":
		return uids(m[7]), size
	case m[8] != "":
		at, err := time.Parse("2-Jan-2006", m[9]+"-"+m[10]+"-"+m[11])
		if err != nil || at.Year() == 0 {
			return api.Key{}, 0
		}
		op := map[byte]api.KeyOp{'b': api.KeyBefore, 'o': api.KeyOn, 's': api.KeySince}[strings.ToLower(m[8])[4]]
		return dated(op, at.Year(), int(at.Month()), at.Day()), size
	case m[12] != "":
		return field(strings.ToLower(m[12]), unquoted(m[13])), size
	case m[14] != "":
		return field(m[14], unquoted(m[15])), size
	case strings.EqualFold(m[16], "body"):
		return said(api.KeyBody, unquoted(m[17])), size
	}
	return said(api.KeyText, unquoted(m[17])), size
}

// wait is what waits for keys: a ( ends by a ) alone, a NOT (and an OR whose first key is there) by a key.
type wait struct {
	kind string
	keys int
}

// parseAgain is Parse, said another way: what waits is a list, and nothing calls itself.
func parseAgain(s string) ([]api.Key, api.Errno) {
	var l []api.Key
	waits := []wait{{kind: "("}}
	for {
		// Here a key is to begin.
		if len(waits) > 49 {
			return nil, api.ErrLimit
		}
		low := strings.ToLower(s)
		if kind, n := begins(low); n > 0 {
			waits = append(waits, wait{kind: kind})
			s = s[n:]
			continue
		}
		k, size := leafAgain(s)
		if size == 0 {
			return nil, api.ErrForm
		}
		l, s = append(l, k), s[size:]
		for {
			// Here a key has ended.
			last := &waits[len(waits)-1]
			last.keys++
			if last.kind == "(" && last.keys > 1 {
				l = append(l, and)
			}
			if last.kind == "not" || last.kind == "or" && last.keys == 2 {
				l = append(l, map[string]api.Key{"not": not, "or": or}[last.kind])
				waits = waits[:len(waits)-1]
				continue
			}
			if last.kind == "(" && len(waits) == 1 && s == "" {
				return l, query.Check(l)
			}
			if last.kind == "(" && len(waits) > 1 && strings.HasPrefix(s, ")") {
				waits, s = waits[:len(waits)-1], s[1:]
				continue
			}
			if !strings.HasPrefix(s, " ") {
				return nil, api.ErrForm
			}
			s = s[1:]
			break
		}
	}
}

// begins is what waits for keys from the beginning of a text on, and how many bytes it has; 0, if nothing does.
func begins(s string) (string, int) {
	for kind, word := range map[string]string{"(": "(", "not": "not ", "or": "or "} {
		if strings.HasPrefix(s, word) {
			return kind, len(word)
		}
	}
	return "", 0
}

// anyText is a random text, of what questions are made of.
func anyText(r *rand.Rand, deep int) string {
	leaves := []string{
		"seen", "UNSEEN", "Answered", "undraft", "all", "larger 5", "SMALLER 4294967295", "1", "*:3,7", "uid 5:*", "sentbefore 1-Feb-1994", "SentOn 29-feb-2000", "SENTSINCE 07-DEC-0999", "from bob", `TO "a \"b\" \\ (c)"`, "cc x", `subject ""`, "header X-y z", `HEADER from "ä"`, "body hello", "Text \"x y\"",
	}
	wrong := []string{"x", "", " ", "(", ")", "not", "or", "larger x", "0", "uid", "senton 30-Feb-2000", "header a:b x", "from \"", "\xff", "seen ", " seen", "body (x)"}
	switch n := r.Intn(12); {
	case n < 5 || deep > 5:
		if r.Intn(60) == 0 {
			return wrong[r.Intn(len(wrong))]
		}
		return leaves[r.Intn(len(leaves))]
	case n < 7:
		return "(" + anyText(r, deep+1) + ")"
	case n < 8:
		return "not " + anyText(r, deep+1)
	case n < 9:
		return "OR " + anyText(r, deep+1) + " " + anyText(r, deep+1)
	}
	return anyText(r, deep+1) + " " + anyText(r, deep+1)
}

// P19.2, P19.5 (M1), P1, P3, P6: random texts.
func TestParseOfAny(t *testing.T) {
	r := rand.New(rand.NewSource(192))
	told := map[api.Errno]int{}
	for i := range 100000 {
		s := anyText(r, 0)
		switch i % 8 {
		case 0: // a letter less
			if n := r.Intn(len(s) + 1); n < len(s) {
				s = s[:n] + s[n+1:]
			}
		case 1:
			s = rep("(", 44+r.Intn(6)) + s + rep(")", 44+r.Intn(6))
		case 2:
			s = rep([]string{"not ", "(", "or 1 "}[r.Intn(3)], 40+r.Intn(9)) + s
		}
		l, e := query.Parse(s)
		want, fault := parseAgain(s)
		if fault != api.OK {
			want = nil
		}
		if !slices.Equal(l, want) || e != fault {
			t.Fatalf("Parse(%q) = %v, %d, want %v, %d", s, l, e, want, fault)
		}
		told[e]++
		if e != api.OK {
			continue
		}
		again, _ := query.Parse(s)
		clear(again)
		if !slices.Equal(l, want) {
			t.Fatalf("two lists of Parse(%q) lie in one another", s)
		}
		printed, e := query.Print(l)
		if e != api.OK {
			t.Fatalf("Print(%v) is told %d", l, e)
		}
		parses(t, printed, l...)
		if twice, _ := query.Print(l); twice != printed {
			t.Fatalf("Print(%v) = %q, and %q", l, printed, twice)
		}
	}
	for _, e := range []api.Errno{api.OK, api.ErrForm, api.ErrLimit} {
		if told[e] < 3000 {
			t.Errorf("only %d are told as %d", told[e], e)
		}
	}
}

// anyQuestion is a random question that is right, of leaves of some kind.
func anyQuestion(r *rand.Rand, leaf func() api.Key) []api.Key {
	for {
		var l []api.Key
		stand := 0
		for n := 1 + r.Intn(30); n > 0 || stand > 1; n-- {
			switch k := r.Intn(5); {
			case stand > 1 && (n <= 0 || stand == 8 || k < 2):
				l = append(l, []api.Key{and, or}[r.Intn(2)])
				stand--
			case stand > 0 && k == 2:
				l = append(l, not)
			default:
				l = append(l, leaf())
				stand++
			}
		}
		if len(l) <= 48 {
			return l
		}
	}
}

// P19.5 (M1): Parse of Print is the question.
func TestParseOfPrint(t *testing.T) {
	r := rand.New(rand.NewSource(195))
	lengths := map[int]int{}
	for range 10000 {
		l := anyQuestion(r, func() api.Key { return leaves[r.Intn(len(leaves))] })
		s, e := query.Print(l)
		if e != api.OK {
			t.Fatalf("Print(%v) is told %d", l, e)
		}
		parses(t, s, l...)
		if s != rawPrint(l) {
			t.Fatalf("Print(%v) = %q, want %q", l, s, rawPrint(l))
		}
		lengths[min(len(l)/5, 4)]++
	}
	for n := range 5 {
		if lengths[n] < 200 {
			t.Errorf("only %d have some %d keys", lengths[n], 5*n)
		}
	}
	longest := append(some(8, said(api.KeyText, rep("\\", 1024))), append(some(7, and), some(33, not)...)...)
	if s, e := query.Print(longest); e != api.OK {
		t.Errorf("Print of 48 keys is told %d", e)
	} else {
		parses(t, s, longest...)
	}
}

// rawPrint is Print, said another way: from the last key on, each behind which what it takes stands.
func rawPrint(l []api.Key) string {
	var text func(first bool) string
	at := len(l)
	text = func(first bool) string {
		at--
		k := l[at]
		switch k.Op {
		case api.KeyNot:
			return "NOT " + text(false)
		case api.KeyOr, api.KeyAnd:
			b := text(false)
			a := text(k.Op == api.KeyAnd)
			if k.Op == api.KeyOr {
				return "OR " + a + " " + b
			} else if first {
				return a + " " + b
			}
			return "(" + a + " " + b + ")"
		}
		s, _ := query.Print(of(k))
		return s
	}
	return text(false)
}
