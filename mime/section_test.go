package mime_test

import (
	"math/rand"
	"regexp"
	"strconv"
	"strings"
	"testing"

	"pigeonhole/api"
	"pigeonhole/head"
	"pigeonhole/mime"
	"pigeonhole/text"
)

// cases are a text as it is, in small letters, and with each second letter the other way.
func cases(s string) []string {
	mixed := []byte(s)
	for i := 1; i < len(s); i += 2 {
		if small := s[i] | 32; small >= 'a' && small <= 'z' {
			mixed[i] ^= 32
		}
	}
	return []string{s, text.Lower(s), string(mixed)}
}

// sections holds what Section tells of a letter's sections against what is wanted.
func sections(t *testing.T, letter string, want map[string]string) {
	t.Helper()
	for path, s := range want {
		for _, path := range cases(path) {
			from, to, e := mime.Section([]byte(letter), path)
			if e != api.OK || from < 0 || from > to || to > len(letter) || letter[from:to] != s {
				t.Errorf("Section(%.200q, %q) = %d, %d, %d, want %q", letter, path, from, to, e, s)
			}
		}
	}
}

// lacks holds the error that Section tells of a letter's sections against what is wanted.
func lacks(t *testing.T, letter string, want api.Errno, paths ...string) {
	t.Helper()
	for _, path := range paths {
		if from, to, e := mime.Section([]byte(letter), path); from != 0 || to != 0 || e != want {
			t.Errorf("Section(%.200q, %.60q) = %d, %d, %d, want %d", letter, path, from, to, e, want)
		}
	}
}

// P17.3, Example 2: of a letter without pieces.
func TestSectionOne(t *testing.T) {
	sections(t, "A: b\r\n\r\nhello", map[string]string{
		"": "A: b\r\n\r\nhello", "HEADER": "A: b\r\n\r\n", "TEXT": "hello", "1": "hello", "1.MIME": "A: b\r\n\r\n", "1.1": "hello", "1.1.1": "hello", "1.1.MIME": "A: b\r\n\r\n", "1" + rep(".1", 100): "hello",
	})
	lacks(t, "A: b\r\n\r\nhello", api.ErrGone, "2", "1.2", "2.1", "1.HEADER", "1.TEXT", "1.1.header", "2.text", "2.MIME", "4294967295", "1.4294967295.mime")
	// A head with an error is none.
	sections(t, "A: b\r\nhello", map[string]string{"": "A: b\r\nhello", "HEADER": "", "TEXT": "A: b\r\nhello", "1": "A: b\r\nhello", "1.MIME": ""})
	sections(t, "", map[string]string{"": "", "HEADER": "", "TEXT": "", "1": "", "1.MIME": ""})
	sections(t, "\r\n", map[string]string{"": "\r\n", "HEADER": "\r\n", "TEXT": "", "1": ""})
	sections(t, "A: b", map[string]string{"": "A: b", "HEADER": "A: b", "TEXT": "", "1": ""})
	for _, b := range [][]byte{nil, {}} {
		if from, to, e := mime.Section(b, "1"); from != 0 || to != 0 || e != api.OK {
			t.Errorf("Section(nil, 1) = %d, %d, %d", from, to, e)
		}
	}
}

// P17.3: what is no path; that goes ahead of all.
func TestSectionForm(t *testing.T) {
	for _, path := range []string{
		".", "..", "1.", ".1", "1..1", "1.1.", "0", "1.0", "0.1", "00", "01", "1.01", "-1", "+1", "1 ", " 1", "1. 1", "1,1", "a", "1.a", "1a", "a1", "4294967296", "1.4294967296", rep("9", 1000),
		"MIME", "mime", ".MIME", "MIME.1", "HEADER.", ".HEADER", "TEXT.", ".TEXT", "1.HEADER.", "1.MIME.", "HEADER.1", "TEXT.1", "1.MIME.1", "1.TEXT.TEXT", "HEADER.MIME", "TEXT.HEADER", "HEADER.HEADER", "HEADER.TEXT", "MIME.MIME", "1..MIME", "1..", "0.MIME", "0.HEADER", "1.0.TEXT",
		"HEADER.FIELDS", "1.HEADER.FIELDS", "HEADERS", "HEAD", "BODY", "TEX", "TEXTS", "1MIME", "1HEADER", "1TEXT", " HEADER", "HEADER ", "1.TEXT ", "1 .TEXT", "1.\tTEXT", "TEXT\r\n", "TEXT\x00", "ТEXT", "1.ＭIME", "ä", "\xff", "1.\xff", "[]", "*", "%", "1.*",
		rep("1.", 1<<18), rep(".", 1<<18), rep("1", 1<<20), rep("a", 1<<20),
	} {
		for _, letter := range []string{"", "A: b\r\n\r\nhello", "no head", mixed("x") + "--x\r\n\r\none\r\n--x--", within + "A: b\r\n\r\nhello", mixed("x") + rep("--x\r\n", 40)} {
			lacks(t, letter, api.ErrForm, cases(path)...)
		}
	}
}

// P17.3: of many.
func TestSectionMany(t *testing.T) {
	body := "ahead\r\n--x\r\nA: 1\r\n\r\none\r\n--x\r\n\r\n\r\n--x\r\n" + mixed("y") + "--y\r\n\r\ntwo\r\n--y\r\nB: 2\r\n\r\nthree\r\n\r\n--x--"
	letter := mixed("x") + body
	sections(t, letter, map[string]string{
		"": letter, "HEADER": mixed("x"), "TEXT": body, "1": "one", "1.MIME": "A: 1\r\n\r\n", "1.1": "one", "1.1.MIME": "A: 1\r\n\r\n", "2": "", "2.MIME": "\r\n", "2.1": "",
		"3": "--y\r\n\r\ntwo\r\n--y\r\nB: 2\r\n\r\nthree\r\n", "3.MIME": mixed("y"), "3.1": "two", "3.1.mime": "\r\n", "3.2": "three\r\n", "3.2.MIME": "B: 2\r\n\r\n", "3.2.1": "three\r\n", "3.2.1.1.MIME": "B: 2\r\n\r\n",
	})
	lacks(t, letter, api.ErrGone, "4", "1.2", "2.2", "3.3", "3.1.2", "3.2.1.2", "4.1", "1.HEADER", "1.TEXT", "3.HEADER", "3.TEXT", "3.2.HEADER", "4.HEADER", "4.MIME", "3.3.MIME")
	// Many without a piece has none.
	for _, body := range []string{"", "hello", "--x--\r\n--x\r\n"} {
		sections(t, mixed("x")+body, map[string]string{"": mixed("x") + body, "HEADER": mixed("x"), "TEXT": body})
		lacks(t, mixed("x")+body, api.ErrGone, "1", "1.MIME", "1.1", "2", "1.TEXT")
	}
	// Without a boundary it is not many.
	sections(t, "Content-Type: multipart/mixed\r\n\r\n--\r\n", map[string]string{"1": "--\r\n", "1.MIME": "Content-Type: multipart/mixed\r\n\r\n"})
}

// P17.3: of letters within.
func TestSectionWithin(t *testing.T) {
	inner := mixed("y") + "--y\r\nA: 1\r\n\r\none\r\n--y\r\n\r\ntwo\r\n--y--"
	plain := "Subject: b\r\n\r\nhello"
	twice := within + plain
	letter := mixed("x") + "--x\r\n" + within + inner + "\r\n--x\r\n" + within + plain + "\r\n--x\r\n" + within + twice + "\r\n--x\r\n" + within + "no head" + "\r\n--x--"
	sections(t, letter, map[string]string{
		"1": inner, "1.MIME": within, "1.HEADER": mixed("y"), "1.TEXT": inner[len(mixed("y")):], "1.1": "one", "1.1.MIME": "A: 1\r\n\r\n", "1.2": "two", "1.2.1": "two",
		"2": plain, "2.MIME": within, "2.HEADER": "Subject: b\r\n\r\n", "2.TEXT": "hello", "2.1": "hello", "2.1.MIME": "Subject: b\r\n\r\n", "2.1.1": "hello",
		"3": twice, "3.MIME": within, "3.HEADER": within, "3.TEXT": plain, "3.1": "hello", "3.1.MIME": "Subject: b\r\n\r\n",
		"4": "no head", "4.HEADER": "", "4.TEXT": "no head", "4.1": "no head", "4.1.MIME": "",
	})
	lacks(t, letter, api.ErrGone, "5", "1.3", "1.1.2", "1.1.HEADER", "1.1.TEXT", "2.2", "2.1.HEADER", "2.1.TEXT", "3.2", "3.1.TEXT", "4.2", "4.1.HEADER")
	// The letter itself.
	sections(t, within+plain, map[string]string{"": within + plain, "HEADER": within, "TEXT": plain, "1": "hello", "1.MIME": "Subject: b\r\n\r\n", "1.1": "hello"})
	lacks(t, within+plain, api.ErrGone, "1.HEADER", "1.TEXT", "2", "1.2")
	sections(t, within+inner, map[string]string{"HEADER": within, "TEXT": inner, "1": "one", "2": "two", "1.MIME": "A: 1\r\n\r\n"})
	lacks(t, within+inner, api.ErrGone, "3", "1.HEADER", "1.2")
	sections(t, within+letter, map[string]string{"1": inner, "1.HEADER": mixed("y"), "1.TEXT": inner[len(mixed("y")):], "2.TEXT": "hello"})
}

// P17.3: what lies MaxNest deep has no piece within it.
func TestSectionDeep(t *testing.T) {
	many := deepLetter(9, true)
	eight := "1" + rep(".1", 7)
	deep := "--x9\r\n\r\nhello\r\n--x9--"
	sections(t, many, map[string]string{eight: deep, eight + ".1": deep, eight + ".1.1": deep, eight + ".mime": mixed("x9"), eight + ".1.MIME": mixed("x9")})
	lacks(t, many, api.ErrGone, eight+".2", eight+".HEADER", eight+".1.TEXT")
	sections(t, deepLetter(8, true), map[string]string{eight: "hello", eight + ".1": "hello", eight + ".MIME": "\r\n"})

	letters := deepLetter(9, false)
	sections(t, letters, map[string]string{"1": "\r\nhello", "1.MIME": within, "1.1": "\r\nhello", "": letters, "TEXT": letters[len(within):]})
	lacks(t, letters, api.ErrGone, "2", "1.HEADER", "1.TEXT", "1.1.TEXT")
	sections(t, deepLetter(8, false), map[string]string{"1": "hello", "1.MIME": "\r\n"})

	body := "--x\r\n" + rep(within, 9) + "\r\n--x--"
	sections(t, mixed("x")+body, map[string]string{"1": rep(within, 8), "1.HEADER": within, "1.TEXT": rep(within, 7), "1.1": within, "1.1.MIME": within, "1.1.1": within})
	lacks(t, mixed("x")+body, api.ErrGone, "1.2", "1.1.HEADER", "1.1.TEXT", "1.1.1.TEXT")

	two := rep(within, 7) + mixed("x") + "--x\r\n" + within + "A: b\r\n\r\none\r\n--x\r\nC: d\r\n\r\ntwo\r\n--x--"
	sections(t, two, map[string]string{"1": "A: b\r\n\r\none", "1.MIME": within, "1.1": "A: b\r\n\r\none", "2": "two", "2.MIME": "C: d\r\n\r\n"})
	lacks(t, two, api.ErrGone, "1.HEADER", "1.TEXT", "1.1.HEADER", "1.2", "3")
}

// P17.3: with too many pieces only what needs no number is told.
func TestSectionLimit(t *testing.T) {
	body := rep("--x\r\n", 32)
	sections(t, mixed("x")+body, map[string]string{"": mixed("x") + body, "HEADER": mixed("x"), "TEXT": body})
	lacks(t, mixed("x")+body, api.ErrLimit, "1", "1.MIME", "99", "1.HEADER", "1.1.TEXT")
	sections(t, mixed("x")+body[5:], map[string]string{"1": "", "31": "", "31.MIME": ""})
	lacks(t, mixed("x")+body[5:], api.ErrGone, "32")
}

// goes is the piece to which numbers go from another one, said another way: -1, if there is none.
func goes(l []api.Piece, at int, numbers []string) int {
	if len(numbers) == 0 {
		return at
	}
	n, _ := strconv.Atoi(numbers[0])
	many := false
	for _, p := range l[at].Params {
		if p[0] == "boundary" {
			many = strings.HasPrefix(l[at].Kind, "multipart/") && p[1] != "" && len(p[1]) <= 70 && p[1][len(p[1])-1] != ' '
			break
		}
	}
	deepest := l[at].Deep == 8
	switch {
	case l[at].Kind == "message/rfc822" && !deepest:
		for i, x := range l {
			if x.Of == at {
				return goes(l, i, numbers)
			}
		}
	case many && !deepest:
		for i, x := range l {
			if x.Of == at && x.Number == n {
				return goes(l, i, numbers[1:])
			}
		}
	case n == 1:
		return goes(l, at, numbers[1:])
	}
	return -1
}

var pathForm = regexp.MustCompile(`(?i)^((?:[1-9][0-9]*(?:\.[1-9][0-9]*)*)?)(\.?)(HEADER|TEXT|MIME|)$`)

// sectionAgain is Section, said another way, of paths without great numbers.
func sectionAgain(letter, path string) (int, int, api.Errno) {
	m := pathForm.FindStringSubmatch(path)
	if m == nil || (m[1] != "" && m[3] != "") != (m[2] != "") {
		return 0, 0, api.ErrForm
	}
	word := strings.ToUpper(m[3])
	if m[1] == "" {
		_, body, e := head.Split([]byte(letter))
		if e != api.OK {
			body = 0
		}
		switch word {
		case "MIME":
			return 0, 0, api.ErrForm
		case "HEADER":
			return 0, body, api.OK
		case "TEXT":
			return body, len(letter), api.OK
		}
		return 0, len(letter), api.OK
	}
	l := parseAgain(letter, nil, api.Piece{To: len(letter), Of: -1})
	if len(l) > 32 {
		return 0, 0, api.ErrLimit
	}
	at := goes(l, 0, strings.Split(m[1], "."))
	if at < 0 {
		return 0, 0, api.ErrGone
	}
	if word == "MIME" {
		return l[at].From, l[at].Body, api.OK
	} else if word == "" {
		return l[at].Body, l[at].To, api.OK
	}
	for _, x := range l {
		if x.Of == at && l[at].Kind == "message/rfc822" && word == "HEADER" {
			return x.From, x.Body, api.OK
		} else if x.Of == at && l[at].Kind == "message/rfc822" {
			return x.Body, x.To, api.OK
		}
	}
	return 0, 0, api.ErrGone
}

// P17.3, P1, P3, P6: random letters, and paths.
func TestSectionOfAny(t *testing.T) {
	r := rand.New(rand.NewSource(173))
	words := []string{"", "", "HEADER", "Text", "mime", "x", "0", "."}
	told := map[api.Errno]int{}
	for i := range 20000 {
		letter := anyLetter(r)
		if i%20 == 0 {
			letter = mixed("x") + rep("--x\r\n", 24+r.Intn(10)) + letter
		}
		b := append(make([]byte, 0, len(letter)+8), letter...)
		for range 8 {
			var steps []string
			for range r.Intn(4) {
				steps = append(steps, strconv.Itoa(1+r.Intn(2)*r.Intn(3)))
			}
			if word := words[r.Intn(len(words))]; word != "" {
				steps = append(steps, word)
			}
			path := strings.Join(steps, ".")
			from, to, e := mime.Section(b, path)
			if low, high, fault := sectionAgain(letter, path); from != low || to != high || e != fault {
				t.Fatalf("Section(%q, %q) = %d, %d, %d, want %d, %d, %d", letter, path, from, to, e, low, high, fault)
			}
			told[e]++
		}
		if string(b) != letter || strings.Trim(string(b[len(b):cap(b)]), "\x00") != "" {
			t.Fatalf("Section of %q changed it", letter)
		}
	}
	for _, e := range []api.Errno{api.OK, api.ErrForm, api.ErrGone, api.ErrLimit} {
		if told[e] < 1000 {
			t.Errorf("only %d are told as %d", told[e], e)
		}
	}
	mime.Section([]byte(deepLetter(9, true)), "1"+rep(".1", 1<<18))
}
