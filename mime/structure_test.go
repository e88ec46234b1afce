package mime_test

import (
	"math/rand"
	"strconv"
	"strings"
	"testing"

	"pigeonhole/api"
	"pigeonhole/mime"
)

// tells holds what Structure tells of a letter against what is wanted.
func tells(t *testing.T, letter, want string) {
	t.Helper()
	if s, e := mime.Structure([]byte(letter)); s != want || e != api.OK {
		t.Errorf("Structure(%.300q) = %.500q, %d, want %.500q", letter, s, e, want)
	}
}

// P17.4: of letters without pieces.
func TestStructureOne(t *testing.T) {
	tells(t, "", `("TEXT" "PLAIN" NIL 0)`)
	tells(t, "\r\nhello", `("TEXT" "PLAIN" NIL 5)`)
	tells(t, "no head", `("TEXT" "PLAIN" NIL 7)`)
	tells(t, "A: b\r\n\r\n"+rep("ä\r\n", 500), `("TEXT" "PLAIN" NIL 2000)`)
	for value, want := range map[string]string{
		"Image/x-Png; Name=\"a b\"":        `("IMAGE" "X-PNG" ("NAME" "a b") 5)`,
		"a/b;c=D;E=\"f\"; c=":              `("TEXT" "PLAIN" NIL 5)`,
		"a/b;c=D;E=\"f\"; c=\"\"":          `("A" "B" ("C" "D" "E" "f" "C" "") 5)`,
		"a/b;c=\"\\\"\\\\ä (NIL)\"":        `("A" "B" ("C" "\"\\ä (NIL)") 5)`,
		"a/b" + rep(";c=d", 8):             `("A" "B" (` + rep(`"C" "d" `, 7) + `"C" "d") 5)`,
		"a/b" + rep(";c=d", 9):             `("TEXT" "PLAIN" NIL 5)`,
		"!#$%&'*+-.^_`{|}~/z9":             `("!#$%&'*+-.^_` + "`" + `{|}~" "Z9" NIL 5)`,
		"multipart/x":                      `("MULTIPART" "X" NIL 5)`,
		"multipart/x; boundary=y":          `("MULTIPART" "X" ("BOUNDARY" "y") 5)`, // many without a piece
		"text/html; charset=us":            `("TEXT" "HTML" ("CHARSET" "us") 5)`,
		"message/delivery; boundary":       `("TEXT" "PLAIN" NIL 5)`,
		"message/delivery":                 `("MESSAGE" "DELIVERY" NIL 5)`,
		"a/b;c=\"" + rep("x", 1020) + "\"": `("TEXT" "PLAIN" NIL 1051)`, // no head, as a line is too long
		"a/b;\r\n c=\"" + rep("x", 1000) + "\r\n " + rep("y", 23) + "\"": `("A" "B" ("C" "` + rep("x", 1000) + " " + rep("y", 23) + `") 5)`,
		"a/b;\r\n c=\"" + rep("x", 1000) + "\r\n " + rep("y", 24) + "\"": `("TEXT" "PLAIN" NIL 5)`,
	} {
		tells(t, "Content-Type: "+value+"\r\n\r\nhello", want)
	}
}

// P17.4: of pieces within pieces.
func TestStructureWithin(t *testing.T) {
	tells(t, mixed("x")+"--x\r\n\r\nhello\r\n--x--", `(("TEXT" "PLAIN" NIL 5) "MIXED")`)
	tells(t, mixed("x")+"--x\r\n\r\nhello\r\n--x\r\nContent-Type: image/png; a=b\r\n\r\n.\r\n--x--", `(("TEXT" "PLAIN" NIL 5)("IMAGE" "PNG" ("A" "b") 1) "MIXED")`)
	tells(t, "Content-Type: multipart/Report-x; a=b; boundary=x\r\n\r\n--x\r\n"+mixed("y")+"--y\r\n--y\r\n--x\r\n", `((("TEXT" "PLAIN" NIL 0)("TEXT" "PLAIN" NIL 0) "MIXED")("TEXT" "PLAIN" NIL 0) "REPORT-X")`)
	tells(t, mixed("x"), `("MULTIPART" "MIXED" ("BOUNDARY" "x") 0)`)
	tells(t, mixed("x")+"--x\r\n"+mixed(`a\"b`)+"\r\n--x--", `(("MULTIPART" "MIXED" ("BOUNDARY" "a\"b") 0) "MIXED")`)
	tells(t, within, `("MESSAGE" "RFC822" NIL 0 ("TEXT" "PLAIN" NIL 0))`)
	tells(t, "Content-Type: message/rfc822; a=b\r\n\r\nA: b\r\n\r\nhello", `("MESSAGE" "RFC822" ("A" "b") 13 ("TEXT" "PLAIN" NIL 5))`)
	tells(t, within+within+"hello", `("MESSAGE" "RFC822" NIL 37 ("MESSAGE" "RFC822" NIL 5 ("TEXT" "PLAIN" NIL 5)))`)
	tells(t, within+mixed("x")+"--x\r\n\r\none\r\n--x--", `("MESSAGE" "RFC822" NIL `+strconv.Itoa(len(mixed("x"))+17)+` (("TEXT" "PLAIN" NIL 3) "MIXED"))`)
	tells(t, mixed("x")+"--x\r\n"+within+"\r\nhello\r\n--x\r\n\r\ntwo\r\n--x--", `(("MESSAGE" "RFC822" NIL 7 ("TEXT" "PLAIN" NIL 5))("TEXT" "PLAIN" NIL 3) "MIXED")`)
	// What lies MaxNest deep has no piece within it.
	tells(t, deepLetter(8, true), rep("(", 8)+`("TEXT" "PLAIN" NIL 5)`+rep(` "MIXED")`, 8))
	tells(t, deepLetter(9, true), rep("(", 8)+`("MULTIPART" "MIXED" ("BOUNDARY" "x9") 21)`+rep(` "MIXED")`, 8))
	inner := `("MESSAGE" "RFC822" NIL 7)`
	for i := range 8 {
		inner = `("MESSAGE" "RFC822" NIL ` + strconv.Itoa(7+len(within)*(i+1)) + " " + inner + ")"
	}
	tells(t, deepLetter(9, false), inner)
}

// P17.4: of pieces that are too many.
func TestStructureLimit(t *testing.T) {
	tells(t, mixed("x")+rep("--x\r\n", 31), "("+rep(`("TEXT" "PLAIN" NIL 0)`, 31)+` "MIXED")`)
	for _, n := range []int{32, 33, 5000} {
		if s, e := mime.Structure([]byte(mixed("x") + rep("--x\r\n", n))); s != "" || e != api.ErrLimit {
			t.Errorf("Structure of %d pieces = %q, %d", n, s, e)
		}
	}
}

// structureAgain is Structure, said another way, of the piece at a place.
func structureAgain(l []api.Piece, at int) string {
	var s strings.Builder
	sign := strings.NewReplacer(`\`, `\\`, `"`, `\"`)
	halves := strings.Split(strings.ToUpper(l[at].Kind), "/")
	var inner []string
	for i, x := range l {
		if x.Of == at {
			inner = append(inner, structureAgain(l, i))
		}
	}
	if len(inner) > 0 && halves[0] == "MULTIPART" {
		return "(" + strings.Join(inner, "") + ` "` + halves[1] + `")`
	}
	s.WriteString(`("` + halves[0] + `" "` + halves[1] + `" `)
	for i, p := range l[at].Params {
		s.WriteString([]string{"(", " "}[min(i, 1)] + `"` + strings.ToUpper(p[0]) + `" "` + sign.Replace(p[1]) + `"`)
	}
	s.WriteString([]string{"NIL ", ") "}[min(len(l[at].Params), 1)] + strconv.Itoa(l[at].To-l[at].Body))
	for _, x := range inner {
		s.WriteString(" " + x)
	}
	return s.String() + ")"
}

// P17.4, P1, P3, P6: random letters.
func TestStructureOfAny(t *testing.T) {
	r := rand.New(rand.NewSource(174))
	for i := range 20000 {
		letter := anyLetter(r)
		if i%20 == 0 {
			letter = mixed("x") + rep("--x\r\n", 24+r.Intn(10)) + letter
		}
		b := append(make([]byte, 0, len(letter)+8), letter...)
		s, e := mime.Structure(b)
		if string(b) != letter || strings.Trim(string(b[len(b):cap(b)]), "\x00") != "" {
			t.Fatalf("Structure(%q) changed it", letter)
		}
		l := parseAgain(letter, nil, api.Piece{To: len(letter), Of: -1})
		want, fault := "", api.ErrLimit
		if len(l) <= 32 {
			want, fault = structureAgain(l, 0), api.OK
		}
		if s != want || e != fault {
			t.Fatalf("Structure(%q) = %q, %d, want %q, %d", letter, s, e, want, fault)
		}
	}
}
