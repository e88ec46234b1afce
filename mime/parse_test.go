package mime_test

import (
	"bytes"
	"math/rand"
	"reflect"
	"regexp"
	"slices"
	"strconv"
	"strings"
	"testing"

	"pigeonhole/api"
	"pigeonhole/head"
	"pigeonhole/mime"
)

// mixed is the head of many, with a boundary.
func mixed(boundary string) string {
	return "Content-Type: multipart/mixed; boundary=\"" + boundary + "\"\r\n\r\n"
}

// within is the head of a letter within.
const within = "Content-Type: message/rfc822\r\n\r\n"

// told is what is told of a piece: of which one it is, its number, how deep it is, its kind, its head and its body.
func told(b []byte, x api.Piece) string {
	l := []string{strconv.Itoa(x.Of), strconv.Itoa(x.Number), strconv.Itoa(x.Deep), x.Kind, string(b[x.From:x.Body]), string(b[x.Body:x.To])}
	return strings.Join(l, "|")
}

// parses holds what Parse tells of a letter against what is wanted.
func parses(t *testing.T, letter string, want ...string) {
	t.Helper()
	l, e := mime.Parse([]byte(letter))
	var got []string
	for _, x := range l {
		got = append(got, told([]byte(letter), x))
	}
	if !slices.Equal(got, want) || e != api.OK {
		t.Errorf("Parse(%.300q) = %.900q, %d, want %.900q", letter, got, e, want)
	}
}

// cuts holds what Parse tells of the pieces of many, with the boundary x, of a body, against what is wanted.
func cuts(t *testing.T, body string, want ...string) {
	t.Helper()
	all := []string{"-1|0|0|multipart/mixed|" + mixed("x") + "|" + body}
	for i, s := range want {
		all = append(all, "0|"+strconv.Itoa(i+1)+"|1|text/plain|\r\n|"+s)
	}
	parses(t, mixed("x")+body, all...)
}

// P17.2: a letter without pieces.
func TestParseOne(t *testing.T) {
	parses(t, "", "-1|0|0|text/plain||")
	parses(t, "\r\n", "-1|0|0|text/plain|\r\n|")
	parses(t, "hello", "-1|0|0|text/plain||hello") // no head
	parses(t, "A: b", "-1|0|0|text/plain|A: b|")
	parses(t, "A: b\r\n\r\nhello\r\n", "-1|0|0|text/plain|A: b\r\n\r\n|hello\r\n")
	parses(t, "A: b\r\nno field\r\n\r\nhello", "-1|0|0|text/plain||A: b\r\nno field\r\n\r\nhello")
	parses(t, "A: b\r\n"+rep("x", 1025)+"\r\n\r\nhello", "-1|0|0|text/plain||A: b\r\n"+rep("x", 1025)+"\r\n\r\nhello")
	parses(t, rep("A: b\r\n", 41)+"\r\nhello", "-1|0|0|text/plain||"+rep("A: b\r\n", 41)+"\r\nhello")
	for value, kind := range map[string]string{
		"image/png": "image/png", " Image/PNG ; a=b": "image/png", "": "text/plain", "png": "text/plain", "image/png;": "text/plain", "image/png (x)": "text/plain", "image/png" + rep(";a=b", 8): "image/png", "image/png" + rep(";a=b", 9): "text/plain",
		"image/png\r\n\t;\r\n a=b": "image/png", "multipart/mixed": "multipart/mixed", "Multipart/X; y=z": "multipart/x", "message/rfc": "message/rfc", "multipart": "text/plain", "text/html; boundary=x": "text/html",
	} {
		letter := "X: y\r\ncontent-TYPE:" + value + "\r\nContent-Type: other/kind\r\n\r\n"
		parses(t, letter+"--x\r\n\r\nhello", "-1|0|0|"+kind+"|"+letter+"|--x\r\n\r\nhello")
	}
}

// P17.2: the fields of a piece's head, and its kind's parameters.
func TestParseHead(t *testing.T) {
	letter := "Subject: a\r\n b\r\nContent-Type: Multipart/Mixed; X=Y;\r\n Boundary=\"x\"\r\n\r\n--x\r\nA: 1\r\nContent-Type: image/png; c=\"d e\"\r\n\r\nhello\r\n--x\r\nA: 1\r\nContent-Type: image\r\n\r\n\r\n--x\r\nA: 1\r\nb\r\n\r\n\r\n--x--"
	want := []api.Piece{
		{
			Kind: "multipart/mixed", Params: params("x", "Y", "boundary", "x"), From: 0, Body: 70, To: len(letter), Of: -1,
			Fields: []api.Field{{Name: "Subject", Value: "a b"}, {Name: "Content-Type", Value: "Multipart/Mixed; X=Y; Boundary=\"x\"", At: 16}},
		},
		{
			Kind: "image/png", Params: params("c", "d e"), From: 75, Body: 117, To: 122, Deep: 1, Number: 1,
			Fields: []api.Field{{Name: "A", Value: "1"}, {Name: "Content-Type", Value: "image/png; c=\"d e\"", At: 6}}, // At is Split's, of the piece's bytes
		},
		{
			Kind: "text/plain", From: 129, Body: 158, To: 158, Deep: 1, Number: 2,
			Fields: []api.Field{{Name: "A", Value: "1"}, {Name: "Content-Type", Value: "image", At: 6}},
		},
		{Kind: "text/plain", From: 165, Body: 165, To: 176, Deep: 1, Number: 3},
	}
	got, e := mime.Parse([]byte(letter))
	if !alike(got, want) || e != api.OK {
		t.Errorf("Parse(%q) = %+v, %d, want %+v", letter, got, e, want)
	}
}

// alike: are two lists of pieces the same, an empty list being as good as none?
func alike(a, b []api.Piece) bool {
	return slices.EqualFunc(a, b, func(x, y api.Piece) bool {
		same := slices.Equal(x.Params, y.Params) && slices.Equal(x.Fields, y.Fields)
		x.Params, x.Fields, y.Params, y.Fields = nil, nil, nil, nil
		return same && reflect.DeepEqual(x, y)
	})
}

// P17.2: where the pieces of many begin and end.
func TestParseMany(t *testing.T) {
	cuts(t, "--x\r\n\r\nhello\r\n--x--", "hello")
	cuts(t, "--x\r\n\r\nhello\r\n--x--\r\n", "hello")
	cuts(t, "--x\r\n\r\none\r\n--x\r\n\r\ntwo\r\n--x\r\n\r\n\r\n--x--\r\nbehind\r\n--x\r\n\r\nno piece\r\n--x--", "one", "two", "")
	cuts(t, "ahead\r\n--y\r\n\r\n--x\r\n\r\none\r\n--x--", "one")
	cuts(t, "\r\n\r\n--x\r\n\r\none\r\n\r\n--x--", "one\r\n")
	cuts(t, "--x\r\n\r\none", "one") // with the body
	cuts(t, "--x\r\n\r\none\r\n", "one\r\n")
	cuts(t, "--x\r\n\r\none\r\n--x\r\n\r\ntwo\r\n", "one", "two\r\n")
	// There is none.
	cuts(t, "")
	cuts(t, "hello\r\n")
	cuts(t, "--x--")
	cuts(t, "ahead\r\n--x--\r\n--x\r\n\r\none\r\n--x--")
	cuts(t, "--xy\r\n\r\none\r\n-x\r\nx\r\n---x\r\n --x\r\nx--x\r\n--X\r\n--\r\n--x-\r\n--x---\r\n--x --\r\n--x\r\r\n--x\n\r\n--x-- .\r\n--x\v")
	// Blanks may stand behind both.
	cuts(t, "--x \t \r\n\r\none\r\n--x\t\r\n\r\ntwo\r\n--x-- \t\r\n--x", "one", "two")
	cuts(t, "--x\r\n\r\none\r\n--x--\t ", "one")
	// What is like one is none.
	like := "one\r\n--xx\r\n--x -- \r\n--x-\r\n--x----\r\n--X--\r\n --x\r\n--x\n--x\r\r\n\n--x\r\n--x."
	cuts(t, "--x\r\n\r\n"+like, like)
}

// P17.2: pieces of which little, or nothing, stands there.
func TestParseEmpty(t *testing.T) {
	all := mixed("x")
	many := "-1|0|0|multipart/mixed|" + all + "|"
	for body, want := range map[string][]string{
		"--x":                              {""},
		"--x ":                             {""},
		"--x\r\n":                          {""},
		"--x\r\n--x":                       {"", ""},
		"--x\r\n--x\r\n":                   {"", ""},
		"--x\r\n--x--":                     {""},
		"--x\r\n\r\n--x--":                 {""}, // the line's end is the boundary's
		"--x\r\n--x\r\n--x\r\n--x--\r\n":   {"", "", ""},
		"\r\n--x\r\n\r\n--x\r\n--x--\r\n-": {"", ""},
	} {
		l, e := mime.Parse([]byte(all + body))
		if e != api.OK || len(l) != len(want)+1 || told([]byte(all+body), l[0]) != many+body {
			t.Errorf("Parse(%q) = %v, %d", body, l, e)
			continue
		}
		for i, s := range want {
			if x := l[i+1]; told([]byte(all+body), x) != "0|"+strconv.Itoa(i+1)+"|1|text/plain||"+s || x.From < l[i].From || x.From < len(all)+3 {
				t.Errorf("Parse(%q) has %+v", body, x)
			}
		}
	}
	parses(t, all+"--x\r\none\r\n--x\r\n\r\n\r\n--x\r\nA: b\r\n--x--", many+"--x\r\none\r\n--x\r\n\r\n\r\n--x\r\nA: b\r\n--x--", "0|1|1|text/plain||one", "0|2|1|text/plain|\r\n|", "0|3|1|text/plain|A: b|")
	// An empty one lies where the boundary's line ahead of it ends.
	if l, _ := mime.Parse([]byte(all + "--x\r\n--x\r\n\r\n--x")); len(l) != 4 || l[1].From != len(all)+5 || l[1].To != len(all)+5 || l[2].From != len(all)+10 || l[2].To != len(all)+10 || l[3].From != len(all)+15 || l[3].To != len(all)+15 {
		t.Errorf("empty pieces are %+v", l)
	}
}

// P17.2: which kinds are many, by their boundary.
func TestParseBoundary(t *testing.T) {
	for _, boundary := range []string{"x", rep("x", 70), "-", "--", "x--", "--x", " x", "a b", "a;b", "=", "(:)", "\\\"", "ä", rep("ä", 35), "/", "x y--"} {
		quoted := strings.ReplaceAll(strings.ReplaceAll(boundary, `\`, `\\`), `"`, `\"`)
		for _, kind := range []string{"multipart/mixed", "Multipart/X-y", "MULTIPART/*"} {
			all := "Content-Type: " + kind + "; a=b; BOUNDARY=\"" + quoted + "\"; boundary=other\r\n\r\n"
			body := "--other\r\n--" + boundary + "\r\n\r\none\r\n--other--\r\n--" + boundary + "z\r\n--" + boundary + "--\r\n--" + boundary
			parses(t, all+body, "-1|0|0|"+strings.ToLower(kind)+"|"+all+"|"+body, "0|1|1|text/plain|\r\n|one\r\n--other--\r\n--"+boundary+"z")
		}
	}
	for _, value := range []string{
		"multipart/mixed", `multipart/mixed; boundary=""`, `multipart/mixed; boundary="x "`, `multipart/mixed; boundary=" "`, "multipart/mixed; boundary=" + rep("x", 71), `multipart/mixed; boundary="` + rep("ä", 36) + `"`,
		`multipart/mixed; boundary=""; boundary=x`, `multipart/mixed; bound=x`, `multipart/mixed; xboundary=x`, "multiparts/mixed; boundary=x", "xmultipart/mixed; boundary=x", "text/plain; boundary=x", "message/rfc; boundary=x",
	} {
		all := "Content-Type: " + value + "\r\n\r\n"
		kind, _, _ := strings.Cut(value, ";")
		for _, boundary := range []string{"", "x", "x ", " ", rep("x", 71), rep("ä", 36)} {
			body := "--" + boundary + "\r\n\r\none\r\n--" + boundary + "--\r\n"
			parses(t, all+body, "-1|0|0|"+kind+"|"+all+"|"+body)
		}
	}
}

// P17.2: pieces within pieces, behind each one those within it.
func TestParseWithin(t *testing.T) {
	inner := mixed("y") + "--y\r\n\r\nc\r\n--y\r\n\r\nd\r\n--y--\r\n"
	body := "--x\r\n\r\na\r\n--x\r\n" + inner + "\r\n--x\r\n" + within + "A: b\r\n\r\ne\r\n--x\r\n\r\nf\r\n--x--"
	parses(t, mixed("x")+body,
		"-1|0|0|multipart/mixed|"+mixed("x")+"|"+body,
		"0|1|1|text/plain|\r\n|a",
		"0|2|1|multipart/mixed|"+mixed("y")+"|--y\r\n\r\nc\r\n--y\r\n\r\nd\r\n--y--\r\n",
		"2|1|2|text/plain|\r\n|c",
		"2|2|2|text/plain|\r\n|d",
		"0|3|1|message/rfc822|"+within+"|A: b\r\n\r\ne",
		"5|1|2|text/plain|A: b\r\n\r\n|e",
		"0|4|1|text/plain|\r\n|f")
	parses(t, within, "-1|0|0|message/rfc822|"+within+"|", "0|1|1|text/plain||")
	parses(t, within+mixed("x")+"--x", "-1|0|0|message/rfc822|"+within+"|"+mixed("x")+"--x", "0|1|1|multipart/mixed|"+mixed("x")+"|--x", "1|1|2|text/plain||")
	// What is outside ends what is within it.
	parses(t, mixed("x")+"--x\r\n"+mixed("y")+"--y\r\n\r\na\r\n--x\r\n\r\n--y\r\n--x--\r\n--y--",
		"-1|0|0|multipart/mixed|"+mixed("x")+"|--x\r\n"+mixed("y")+"--y\r\n\r\na\r\n--x\r\n\r\n--y\r\n--x--\r\n--y--", "0|1|1|multipart/mixed|"+mixed("y")+"|--y\r\n\r\na", "1|1|2|text/plain|\r\n|a", "0|2|1|text/plain|\r\n|--y")
	parses(t, mixed("x")+"--x\r\n"+mixed("x")+"--x\r\n\r\na",
		"-1|0|0|multipart/mixed|"+mixed("x")+"|--x\r\n"+mixed("x")+"--x\r\n\r\na", "0|1|1|multipart/mixed|"+mixed("x")[:len(mixed("x"))-2]+"|", "0|2|1|text/plain|\r\n|a")
}

// deepLetter is n of many, or letters within, in one another, and a plain one within all of them.
func deepLetter(n int, many bool) string {
	s := "\r\nhello"
	for i := n; i > 0; i-- {
		if x := "x" + strconv.Itoa(i); many {
			s = mixed(x) + "--" + x + "\r\n" + s + "\r\n--" + x + "--"
		} else {
			s = within + s
		}
	}
	return s
}

// P17.2: how deep pieces may lie.
func TestParseDeep(t *testing.T) {
	for _, many := range []bool{true, false} {
		kind := map[bool]string{true: "multipart/mixed", false: "message/rfc822"}[many]
		for _, n := range []int{0, 1, 7, 8, 9, 20} {
			l, e := mime.Parse([]byte(deepLetter(n, many)))
			if len(l) != min(n, 8)+1 || e != api.OK {
				t.Fatalf("%d in one another are %d, %d", n, len(l), e)
			}
			for i, x := range l {
				if want := map[bool]string{true: kind, false: "text/plain"}[i < n]; x.Deep != i || x.Of != i-1 || x.Number != min(i, 1) || x.Kind != want {
					t.Errorf("%d in one another have %+v", n, x)
				}
			}
		}
	}
}

// P17.2: how many pieces there may be; the letter counts.
func TestParseLimit(t *testing.T) {
	for _, c := range []struct{ one, behind string }{{"--x\r\n", ""}, {"--x\r\n\r\nhello\r\n", "--x--"}} {
		for _, n := range []int{30, 31, 32, 33, 5000} {
			letter := mixed("x") + rep(c.one, n) + c.behind
			l, e := mime.Parse([]byte(letter))
			if n < 32 && (len(l) != n+1 || e != api.OK) || n > 31 && (len(l) != 0 || e != api.ErrLimit) {
				t.Errorf("of %d pieces %d, %d", n, len(l), e)
			}
			within := mixed("y") + "--y\r\n" + letter + "\r\n--y--"
			if l, e = mime.Parse([]byte(within)); n < 31 && (len(l) != n+2 || e != api.OK) || n > 30 && (len(l) != 0 || e != api.ErrLimit) {
				t.Errorf("of %d pieces within %d, %d", n, len(l), e)
			}
		}
	}
	// Those that lie too deep are none.
	if l, e := mime.Parse([]byte(rep(within, 8) + mixed("x") + rep("--x\r\n", 100))); len(l) != 9 || e != api.OK {
		t.Errorf("of pieces that lie too deep %d, %d", len(l), e)
	}
	if l, e := mime.Parse([]byte(rep(within, 7) + mixed("x") + rep("--x\r\n", 24))); len(l) != 32 || e != api.OK {
		t.Errorf("of pieces that lie deep %d, %d", len(l), e)
	}
	if l, e := mime.Parse([]byte(rep(within, 7) + mixed("x") + rep("--x\r\n", 25))); len(l) != 0 || e != api.ErrLimit {
		t.Errorf("of too many that lie deep %d, %d", len(l), e)
	}
}

// piecesAgain is where the pieces of many lie in a body, said another way.
func piecesAgain(body, boundary string) (l [][2]int) {
	form := regexp.MustCompile(`^--` + regexp.QuoteMeta(boundary) + `(--)?[ \t]*(?:\r\n)?$`)
	at, from := 0, -1
	for _, line := range strings.SplitAfter(body, "\r\n") {
		if m := form.FindStringSubmatch(line); m != nil {
			if from >= 0 {
				l = append(l, [2]int{from, max(from, at-2)})
			}
			from = at + len(line)
			if m[1] != "" {
				return l
			}
		}
		at += len(line)
	}
	if from >= 0 {
		l = append(l, [2]int{from, len(body)})
	}
	return l
}

// parseAgain is Parse, said another way, however many pieces there are: those of x, which lies in a letter, behind others.
func parseAgain(letter string, l []api.Piece, x api.Piece) []api.Piece {
	x.Body, x.Kind = x.From, "text/plain"
	if fields, n, e := head.Split([]byte(letter[x.From:x.To])); e == api.OK {
		x.Fields, x.Body = fields, x.From+n
		value, _ := head.Get(fields, "content-type")
		if kind, with, e := kindAgain(value); e == api.OK {
			x.Kind, x.Params = kind, with
		}
	}
	place := len(l)
	l = append(l, x)
	i := slices.IndexFunc(x.Params, func(p [2]string) bool { return p[0] == "boundary" })
	var parts [][2]int
	if strings.HasPrefix(x.Kind, "multipart/") && i >= 0 && regexp.MustCompile(`^.*[^ \t]$`).MatchString(x.Params[i][1]) && len(x.Params[i][1]) < 71 {
		parts = piecesAgain(letter[x.Body:x.To], x.Params[i][1])
	} else if x.Kind == "message/rfc822" {
		parts = [][2]int{{0, x.To - x.Body}}
	}
	for n, p := range parts {
		if x.Deep < 8 {
			l = parseAgain(letter, l, api.Piece{From: x.Body + p[0], To: x.Body + p[1], Of: place, Deep: x.Deep + 1, Number: n + 1})
		}
	}
	return l
}

// anyLetter is a random letter, of what pieces are made of.
func anyLetter(r *rand.Rand) string {
	pieces := []string{
		mixed("x"), mixed("y"), mixed("x"), mixed("x y"), within, "Content-Type: text/html; a=b\r\n\r\n", "A: b\r\n", "\r\n", "\r\n\r\n", "hello", "\r\n--x\r\n", "\r\n--x\r\n", "\r\n--y\r\n", "\r\n--x y\r\n", "--x\r\n", "--y\r\n", "\r\n--x--", "\r\n--y--\r\n", "--", "--x", "x", " ", "\t\r\n",
		"\r", "\n", "\xff", "\x00", "no field\r\n",
	}
	var s strings.Builder
	for range r.Intn(4) {
		s.WriteString(pieces[r.Intn(6)])
	}
	for range r.Intn(16) {
		s.WriteString(pieces[r.Intn(len(pieces))])
	}
	return s.String()
}

// P17.2, P17.5 (M1), P1, P3, P6: random letters.
func TestParseOfAny(t *testing.T) {
	r := rand.New(rand.NewSource(172))
	told := map[int]int{}
	for i := range 60000 {
		letter := anyLetter(r)
		if i%20 == 0 {
			letter = mixed("x") + rep("--x\r\n", 24+r.Intn(10)) + letter
		}
		b := append(make([]byte, 0, len(letter)+8), letter...)
		l, e := mime.Parse(b)
		again, _ := mime.Parse(b)
		if string(b) != letter || !bytes.Equal(b[len(b):cap(b)], make([]byte, cap(b)-len(b))) {
			t.Fatalf("Parse(%q) changed it", letter)
		}
		clear(b[:cap(b)]) // what was answered has memory of its own
		want, fault := parseAgain(letter, nil, api.Piece{To: len(letter), Of: -1}), api.OK
		if len(want) > 32 {
			want, fault = nil, api.ErrLimit
		}
		if !alike(l, want) || e != fault {
			t.Fatalf("Parse(%q) = %+v, %d, want %+v, %d", letter, l, e, want, fault)
		}
		for k, x := range l {
			clear(x.Params)
			clear(x.Fields)
			if !(x.From <= x.Body && x.Body <= x.To) || k == 0 && (x.From != 0 || x.To != len(letter)) {
				t.Fatalf("Parse(%q) has %+v", letter, x)
			}
			if k > 0 && (l[x.Of].Body > x.From || x.To > l[x.Of].To || x.Of >= k) {
				t.Fatalf("Parse(%q) has %+v, which is not in the body of %+v", letter, x, l[x.Of])
			}
			for _, y := range l[:k] {
				if y.Of == x.Of && (y.To > x.From || y.Number >= x.Number) {
					t.Fatalf("Parse(%q) has %+v behind %+v", letter, x, y)
				}
			}
		}
		clear(l)
		if !alike(again, want) {
			t.Fatalf("two lists of Parse(%q) lie in one another", letter)
		}
		told[len(again)]++
	}
	for _, n := range []int{0, 1, 2, 3, 4, 5, 6, 32} {
		if told[n] < 60 {
			t.Errorf("only %d have %d pieces", told[n], n)
		}
	}
	for _, s := range []string{rep("\r\n", 1<<20), mixed("x") + rep("\r\n", 1<<20), rep(within, 1<<15), mixed("x") + rep("--", 1<<20), rep(mixed("x")+"--x\r\n", 1<<12), mixed("x") + rep("-", 1<<20), rep("A:b\r\n", 1<<18)} {
		mime.Parse([]byte(s))
	}
}

// P17.6 (M1): pieces that are laid together with a boundary that none of them has are found as they were.
func TestParseTogether(t *testing.T) {
	r := rand.New(rand.NewSource(176))
	for range 5000 {
		var parts []string
		for range 1 + r.Intn(3) {
			parts = append(parts, anyLetter(r))
		}
		boundary := []string{"unknown", "a b:c", rep("z", 70), "-"}[r.Intn(4)]
		if boundary == "-" && strings.Contains(strings.Join(parts, "|"), "---") {
			continue
		}
		blanks := []string{"", " ", "\t "}[r.Intn(3)]
		letter := mixed(boundary) + []string{"", "ahead\r\n", "\r\n"}[r.Intn(3)]
		for _, s := range parts {
			letter += "--" + boundary + blanks + "\r\n" + s + "\r\n"
		}
		letter += "--" + boundary + "--" + []string{"", "\r\n", " \r\nbehind\r\n--" + boundary + "\r\n"}[r.Intn(3)]
		l, e := mime.Parse([]byte(letter))
		if len(parseAgain(letter, nil, api.Piece{To: len(letter), Of: -1})) > 32 {
			continue
		}
		var got []string
		for _, x := range l {
			if x.Of == 0 {
				got = append(got, letter[x.From:x.To])
			}
		}
		if !slices.Equal(got, parts) || e != api.OK {
			t.Fatalf("Parse(%q) = %q, %d, want %q", letter, got, e, parts)
		}
	}
}
