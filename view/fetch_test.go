package view_test

import (
	"bytes"
	"math/rand"
	"regexp"
	"slices"
	"strconv"
	"strings"
	"testing"

	"pigeonhole/api"
	"pigeonhole/head"
	"pigeonhole/mime"
	"pigeonhole/text"
	"pigeonhole/view"
)

// envelopes holds what Envelope tells of a letter against what is wanted.
func envelopes(t *testing.T, letter, want string) {
	t.Helper()
	if got := view.Envelope([]byte(letter)); got != want {
		t.Errorf("Envelope(%.300q) = %.900q, want %.900q", letter, got, want)
	}
}

// lit is a text behind how many bytes it has.
func lit(s string) string { return "{" + strconv.Itoa(len(s)) + "}\r\n" + s }

// P20.3: texts, and which field is told.
func TestEnvelopeTexts(t *testing.T) {
	none := rep("NIL ", 9) + "NIL"
	for _, s := range []string{"", "\r\n", "hello", "X: y\r\n\r\nDate: z", "no field\r\nDate: x", "Date: x\r\nno field", "Date: x\r\n" + rep("x", 1025) + "\r\n\r\n", rep("Date: x\r\n", 41)} {
		envelopes(t, s, "("+none+")")
	}
	if got := view.Envelope(nil); got != "("+none+")" {
		t.Errorf("Envelope(nil) = %q", got)
	}
	for i, name := range map[int]string{0: "Date", 1: "Subject", 8: "In-Reply-To", 9: "Message-ID"} {
		for value, want := range map[string]string{
			"hello": `"hello"`, "": `""`, " \t ": `""`, `a "b" \c`: `"a \"b\" \\c"`, "ä €": `"ä €"`, "a\r\n b": `"a b"`, "NIL": `"NIL"`, "(x)": `"(x)"`, "<1@here>": `"<1@here>"`,
			"a\tb": lit("a\tb"), "a\r\n\tb": lit("a\tb"), "\xff": lit("\xff"), "\x00": lit("\x00"), "a\x7fb": lit("a\x7fb"), "a\rb": lit("a\rb"), "a\nb": lit("a\nb"), rep("x", 1000) + "\r\n " + rep("y", 23): `"` + rep("x", 1000) + " " + rep("y", 23) + `"`, rep("x", 1000) + "\r\n " + rep("y", 24): lit(rep("x", 1000) + " " + rep("y", 24)),
		} {
			l := strings.Fields(none)
			l[i] = want
			all := "(" + strings.Join(l, " ") + ")"
			envelopes(t, name+": "+value, all)
			envelopes(t, strings.ToUpper(name)+":"+value+"\r\n\r\n", all)
			envelopes(t, "X: y\r\n"+strings.ToLower(name)+": "+value+"\r\n"+name+": other\r\n\r\n"+name+": body", all)
		}
	}
	envelopes(t, "Message-ID: <2>\r\nIn-Reply-To: <1>\r\nBcc: g@h\r\nCc: f@h\r\nTo: e@h\r\nReply-To: d@h\r\nSender: c@h\r\nFrom: b@h\r\nSubject: a\r\nDate: x\r\n", `("x" "a" ((NIL NIL "b" "h")) ((NIL NIL "c" "h")) ((NIL NIL "d" "h")) ((NIL NIL "e" "h")) ((NIL NIL "f" "h")) ((NIL NIL "g" "h")) "<1>" "<2>")`)
}

// P20.3: people.
func TestEnvelopePeople(t *testing.T) {
	names := []string{"From", "Sender", "Reply-To", "To", "Cc", "Bcc"}
	for value, want := range map[string]string{
		"bob@here": `((NIL NIL "bob" "here"))`, "Bob <bob@here>": `(("Bob" NIL "bob" "here"))`, "Bob B. (x) <Bob@HERE>": `(("Bob B." NIL "Bob" "here"))`, `"B, \"o\"" <b@c>`: `(("B, \"o\"" NIL "b" "c"))`, `"a b"@c`: `((NIL NIL "a b" "c"))`, `""@c`: `((NIL NIL "" "c"))`, `"" <b@c>`: `((NIL NIL "b" "c"))`, `"ä" <b@c>`: `(("ä" NIL "b" "c"))`,
		"a@b, C <d@e>,\r\n f@g": `((NIL NIL "a" "b")("C" NIL "d" "e")(NIL NIL "f" "g"))`, rep("a@b,", 15) + "a@b": "(" + rep(`(NIL NIL "a" "b")`, 16) + ")", `"` + rep("x", 500) + `"` + "\r\n \"" + rep("y", 600) + `" <b@c>`: "((" + lit(rep("x", 500)+" "+rep("y", 600)) + ` NIL "b" "c"))`, `"\"\\"@c`: `((NIL NIL "\"\\" "c"))`,
		// None, or an error.
		"": "NIL", "(x)": "NIL", "bob": "NIL", "<>": "NIL", "a@b,": "NIL", "a@b c@d": "NIL", "Bob <bob@here": "NIL", "Ä <b@c>": "NIL", "undisclosed:;": "NIL", rep("a@b,", 16) + "a@b": "NIL", `"` + "\t" + `" <b@c>`: "NIL",
	} {
		for i, name := range names {
			l := slices.Repeat([]string{"NIL"}, 10)
			l[2+i] = want
			if name == "From" {
				l[3], l[4] = want, want
			}
			envelopes(t, strings.ToUpper(name)+": "+value+"\r\n"+name+": other@there\r\n\r\n", "("+strings.Join(l, " ")+")")
			if i == 0 || i > 2 {
				continue
			}
			// Sender and Reply-To have those of From, where they have none of their own.
			l[2], l[3], l[4] = `((NIL NIL "x" "y"))`, `((NIL NIL "x" "y"))`, `((NIL NIL "x" "y"))`
			if want != "NIL" {
				l[2+i] = want
			}
			envelopes(t, name+": "+value+"\r\nFrom: x@y\r\n", "("+strings.Join(l, " ")+")")
		}
	}
	nil7 := " NIL NIL NIL NIL NIL)"
	envelopes(t, "From: bad\r\nSender: x@y", `(NIL NIL NIL ((NIL NIL "x" "y")) NIL`+nil7)
	envelopes(t, "From: bad\r\nSender: bad\r\nReply-To: bad", `(NIL NIL NIL NIL NIL`+nil7)
}

// fetches holds what Fetch tells of a letter 2, of the UID 7, against what is wanted.
func fetches(t *testing.T, letter, want string, l ...api.Item) {
	t.Helper()
	x := api.Letter{UID: 7, Flags: api.Seen | api.Draft, Bytes: []byte(letter)}
	if s, e := view.Fetch(2, x, l, false); s != "* 2 FETCH ("+want+")" || e != api.OK {
		t.Errorf("Fetch(%.300q, %v) = %.900q, %d, want %.900q", letter, l, s, e, want)
	}
	ahead := "UID 7 "
	if slices.ContainsFunc(l, func(x api.Item) bool { return x.See == api.SeeUID }) {
		ahead = ""
	}
	if s, e := view.Fetch(2, x, l, true); s != "* 2 FETCH ("+ahead+want+")" || e != api.OK {
		t.Errorf("Fetch(%.300q, %v, uid) = %.900q, %d, want %.900q", letter, l, s, e, ahead+want)
	}
}

// P20.4, Example 1
func TestFetch(t *testing.T) {
	if s, e := view.Fetch(2, api.Letter{UID: 7}, of(see(api.SeeFlags)), true); s != "* 2 FETCH (UID 7 FLAGS ())" || e != api.OK {
		t.Errorf("Fetch = %q, %d", s, e)
	}
	letter := "Subject: a\r\nFrom: b@c\r\nContent-Type: Text/HTML; x=y\r\n\r\nhello\r\n"
	size, envelope, structure := "RFC822.SIZE "+strconv.Itoa(len(letter)), "ENVELOPE "+view.Envelope([]byte(letter)), `BODYSTRUCTURE ("TEXT" "HTML" ("X" "y") 7)`
	fetches(t, letter, "UID 7", see(api.SeeUID))
	fetches(t, letter, `FLAGS (\Seen \Draft)`, see(api.SeeFlags))
	fetches(t, letter, size, see(api.SeeSize))
	fetches(t, letter, envelope, see(api.SeeEnvelope))
	fetches(t, letter, structure, see(api.SeeStructure))
	fetches(t, letter, `BODY[TEXT] {7}`+"\r\nhello\r\n", body("TEXT"))
	fetches(t, letter, size+` FLAGS (\Seen \Draft) UID 7 BODY[TEXT]<1> {3}`+"\r\nell "+structure+" "+envelope, see(api.SeeSize), see(api.SeeFlags), see(api.SeeUID), part("TEXT", 1, 3), see(api.SeeStructure), see(api.SeeEnvelope))
	fetches(t, letter, "UID 7 UID 7", see(api.SeeUID), see(api.SeeUID))
	fetches(t, letter, rep(size+" ", 11)+size, slices.Repeat(of(see(api.SeeSize)), 12)...)
	fetches(t, "", "RFC822.SIZE 0 ENVELOPE (NIL NIL NIL NIL NIL NIL NIL NIL NIL NIL) BODYSTRUCTURE (\"TEXT\" \"PLAIN\" NIL 0) BODY[] {0}\r\n BODY[HEADER.FIELDS (a)] {2}\r\n\r\n", see(api.SeeSize), see(api.SeeEnvelope), see(api.SeeStructure), body(""), fields("a"))
	fetches(t, rep("x", 1<<20), "RFC822.SIZE 1048576", see(api.SeeSize))
}

// P20.4: numbers, and which error goes ahead.
func TestFetchNumbers(t *testing.T) {
	l := of(see(api.SeeUID))
	for _, n := range []int{0, 1, 9, 10, top - 1, top} {
		digits := strconv.Itoa(n)
		if s, e := view.Fetch(n, api.Letter{UID: n}, l, true); s != "* "+digits+" FETCH (UID "+digits+")" || e != api.OK {
			t.Errorf("Fetch(%d) = %q, %d", n, s, e)
		}
	}
	for _, n := range far {
		for _, uid := range []bool{false, true} {
			for _, items := range [][]api.Item{l, of(see(api.SeeFlags))} {
				for _, c := range [][2]int{{n, 1}, {1, n}, {n, n}} {
					if s, e := view.Fetch(c[0], api.Letter{UID: c[1]}, items, uid); s != "" || e != api.ErrArg {
						t.Errorf("Fetch(%d, %d) = %q, %d", c[0], c[1], s, e)
					}
				}
			}
			if s, e := view.Fetch(n, api.Letter{UID: n}, of(body("x")), uid); s != "" || e != api.ErrForm {
				t.Errorf("Fetch(%d, %d) of no item = %q, %d", n, n, s, e)
			}
		}
	}
	for f := range 256 { // flags there are none of are not told
		if s, e := view.Fetch(1, api.Letter{Flags: uint8(f)}, of(see(api.SeeFlags)), false); s != "* 1 FETCH (FLAGS "+view.Flags(uint8(f)%32)+")" || e != api.OK {
			t.Errorf("Fetch of flags %d = %q, %d", f, s, e)
		}
	}
}

// mixed is a letter of two pieces, the second one of which is a letter within.
const mixed = "A: b\r\nContent-Type: multipart/mixed; boundary=x\r\n\r\n--x\r\nC: d\r\n\r\none\r\n--x\r\nContent-Type: message/rfc822\r\n\r\nSubject: s\r\n\r\ntwo\r\n--x--"

// P20.4: sections, and parts of them.
func TestFetchSections(t *testing.T) {
	for path, want := range map[string]string{
		"": mixed, "HEADER": "A: b\r\nContent-Type: multipart/mixed; boundary=x\r\n\r\n", "TEXT": mixed[strings.Index(mixed, "--x"):], "1": "one", "1.1": "one", "1.MIME": "C: d\r\n\r\n", "2": "Subject: s\r\n\r\ntwo", "2.HEADER": "Subject: s\r\n\r\n", "2.TEXT": "two", "2.1": "two",
	} {
		n := len(want)
		fetches(t, mixed, "BODY["+path+"] "+lit(want), body(path))
		fetches(t, mixed, "BODY["+path+"]<0> "+lit(want), part(path, 0, n))
		fetches(t, mixed, "BODY["+path+"]<0> "+lit(want), part(path, 0, top))
		fetches(t, mixed, "BODY["+path+"]<0> "+lit(want[:n-1]), part(path, 0, n-1))
		fetches(t, mixed, "BODY["+path+"]<0> "+lit(want[:1]), part(path, 0, 1))
		fetches(t, mixed, "BODY["+path+"]<1> "+lit(want[1:]), part(path, 1, n))
		fetches(t, mixed, "BODY["+path+"]<1> "+lit(want[1:n-1]), part(path, 1, n-2))
		fetches(t, mixed, "BODY["+path+"]<"+strconv.Itoa(n-1)+"> "+lit(want[n-1:]), part(path, n-1, 5))
		// Behind its end there are no bytes, but it is there.
		for _, from := range []int{n, n + 1, top} {
			fetches(t, mixed, "BODY["+path+"]<"+strconv.Itoa(from)+"> "+lit(""), part(path, from, top))
		}
	}
	for _, path := range []string{"3", "1.2", "1.TEXT", "2.1.HEADER", "4294967295", "3.MIME"} {
		fetches(t, mixed, "BODY["+path+"] NIL", body(path))
		fetches(t, mixed, "BODY["+path+"]<5> NIL", part(path, 5, 10))
	}
	// Pieces that are too many.
	many := "Content-Type: multipart/mixed; boundary=x\r\n\r\n" + rep("--x\r\n", 32)
	fetches(t, many, "BODY[1] NIL BODY[1]<0> NIL BODY[TEXT]<0> {3}\r\n--x BODYSTRUCTURE NIL", body("1"), part("1", 0, 1), part("TEXT", 0, 3), see(api.SeeStructure))
	fetches(t, "A: b\r\n\r\n", "BODY[TEXT] {0}\r\n BODY[1] {0}\r\n BODY[2] NIL", body("TEXT"), body("1"), body("2"))
	fetches(t, "\x00\xff\r\n", "BODY[] {4}\r\n\x00\xff\r\n", body(""))
}

// P20.4: fields of some names.
func TestFetchFields(t *testing.T) {
	subject, to, x, again := "Subject: a\r\n  b\r\n\tc \r\n", "TO: x\r\n", "X-a:\r\n", "to:y\r\n z\r\n"
	head := subject + to + x + again
	for names, want := range map[string]string{
		"Subject": subject, "SUBJECT": subject, "to": to + again, "To Subject": subject + to + again, "x-a": x, "X-A tO": to + x + again, "to to TO": to + again, "from": "", "from x-A cc": x, "Subject to x-a": head, "subj": "", "x": "",
	} {
		item := fields(strings.Fields(names)...)
		name := "BODY[HEADER.FIELDS (" + names + ")] "
		fetches(t, head+"\r\n", name+lit(want+"\r\n"), item)
		fetches(t, head+"\r\nTo: body\r\n\r\n", name+lit(want+"\r\n"), item)
		fetches(t, head, name+lit(want+"\r\n"), item) // the head ends with the letter
		fetches(t, head+" \r\n\r\nto: body", name+lit(strings.Replace(want, again, again+" \r\n", 1)+"\r\n"), item)
		fetches(t, head+"no field\r\n\r\n", name+lit("\r\n"), item)
		fetches(t, "\r\n"+head, name+lit("\r\n"), item)
		fetches(t, "", name+lit("\r\n"), item)
		// A last line without a line's end stays so.
		fetches(t, head[:len(head)-2], name+lit(strings.Replace(want, again, again[:len(again)-2], 1)+"\r\n"), item)
	}
	fetches(t, "a: b", "BODY[HEADER.FIELDS (A)] {6}\r\na: b\r\n", fields("A"))
	fetches(t, "a: b\r\n", "BODY[HEADER.FIELDS (A)] {8}\r\na: b\r\n\r\n", fields("A"))
	fetches(t, "a: b\r\n\r\n", "BODY[HEADER.FIELDS (A b)] {8}\r\na: b\r\n\r\n", fields("A", "b"))
	fetches(t, "a:\x00\xff\nb: c\r\n\r\n", "BODY[HEADER.FIELDS (A)] {13}\r\na:\x00\xff\nb: c\r\n\r\n", fields("A"))
	fetches(t, rep("a: b\r\n", 40)+"\r\n", "BODY[HEADER.FIELDS (A)] "+lit(rep("a: b\r\n", 40)+"\r\n"), fields("A"))
	fetches(t, rep("a: b\r\n", 41)+"\r\n", "BODY[HEADER.FIELDS (A)] "+lit("\r\n"), fields("A"))
}

// anyLetter is a random letter.
func anyLetter(r *rand.Rand) string {
	pieces := []string{
		"Subject: a\r\n", "subject: b \"c\"\r\n  d\r\n", "From: x@y\r\n", "Sender: Bob <b@c>,\r\n e@f\r\n", "Reply-To: \r\n", "To: x\r\n", "to: \"\xc3\xa4\" <b@c>\r\n", "Date: now\r\n", "Message-ID: <1@2>\r\n", "In-Reply-To: a\tb\r\n", "Content-Type: multipart/mixed; boundary=x\r\n", "Content-Type: message/rfc822\r\n", "Content-Type: image/png; a=\"b c\"\r\n",
		"no field\r\n", "\r\n", "\r\n", "\r\n--x\r\n", "\r\n--x--", "hello", "\x00\xff", "\r", "\n",
	}
	var s strings.Builder
	for range r.Intn(5) {
		s.WriteString(pieces[r.Intn(13)])
	}
	for range r.Intn(8) {
		s.WriteString(pieces[r.Intn(len(pieces))])
	}
	return s.String()
}

var fieldForm = regexp.MustCompile(`(?s)^([!-9;-~]{1,24}):.*?(\r\n([^ \t]|$)|$)`)

// linesAgain is the lines of a letter's fields of some names, and a line's end, said another way.
func linesAgain(letter string, names []string) string {
	all := ""
	if _, _, e := head.Split([]byte(letter)); e != api.OK {
		return "\r\n"
	}
	for letter != "" && !strings.HasPrefix(letter, "\r\n") {
		m := fieldForm.FindStringSubmatch(letter)
		field := strings.TrimSuffix(m[0], m[3])
		if slices.ContainsFunc(names, func(s string) bool { return strings.EqualFold(s, m[1]) }) {
			all += field
		}
		letter = letter[len(field):]
	}
	return all + "\r\n"
}

// peopleAgain is what an envelope has of a field's people, said another way.
func peopleAgain(l []api.Field, name string) string {
	value, _ := head.Get(l, name)
	all, _, e := head.People(value)
	if e != api.OK {
		return "NIL"
	}
	s := "("
	for _, p := range all {
		s += "(" + strings.Replace(textAgain(p.Name, true), `""`, "NIL", 1) + " NIL " + textAgain(p.Addr.Local, true) + " " + textAgain(p.Addr.Domain, true) + ")"
	}
	return s + ")"
}

// textAgain is the string of a text, said another way.
func textAgain(s string, there bool) string {
	if !there {
		return "NIL"
	}
	if quoted, _, e := text.Quote(s); e == api.OK {
		return quoted
	}
	return lit(s)
}

// tellAgain is what Fetch tells of an item, said another way.
func tellAgain(x api.Letter, i api.Item) string {
	switch i.See {
	case api.SeeUID:
		return "UID " + strconv.Itoa(x.UID)
	case api.SeeFlags:
		return "FLAGS " + view.Flags(x.Flags)
	case api.SeeSize:
		return "RFC822.SIZE " + strconv.Itoa(len(x.Bytes))
	case api.SeeStructure:
		if s, e := mime.Structure(x.Bytes); e == api.OK {
			return "BODYSTRUCTURE " + s
		}
		return "BODYSTRUCTURE NIL"
	case api.SeeFields:
		return "BODY[HEADER.FIELDS (" + strings.Join(i.Names, " ") + ")] " + lit(linesAgain(string(x.Bytes), i.Names))
	case api.SeeEnvelope:
		l, _, _ := head.Split(x.Bytes)
		var told []string
		for _, name := range []string{"Date", "Subject", "From", "Sender", "Reply-To", "To", "Cc", "Bcc", "In-Reply-To", "Message-ID"} {
			s := peopleAgain(l, name)
			if strings.HasSuffix(name, "er") || name == "Reply-To" && s == "NIL" {
				s = map[bool]string{true: peopleAgain(l, "From"), false: s}[s == "NIL"]
			}
			if strings.Contains(" Date Subject In-Reply-To Message-ID ", " "+name+" ") {
				s = textAgain(head.Get(l, name))
			}
			told = append(told, s)
		}
		return "ENVELOPE (" + strings.Join(told, " ") + ")"
	}
	from, to, e := mime.Section(x.Bytes, i.Path)
	name, section := "BODY["+i.Path+"]", string(x.Bytes[from:to])
	if i.Part {
		name += "<" + strconv.Itoa(i.From) + ">"
		section = section[min(i.From, len(section)):]
		section = section[:min(i.Size, len(section))]
	}
	if e != api.OK {
		return name + " NIL"
	}
	return name + " " + lit(section)
}

// P20.3, P20.4, P20.6 (M1), P1, P3, P6: random letters, and items.
func TestFetchOfAny(t *testing.T) {
	r := rand.New(rand.NewSource(204))
	paths := []string{"", "1", "2", "1.1", "TEXT", "HEADER", "1.MIME", "2.TEXT", "1.HEADER", "3"}
	for range 20000 {
		letter := anyLetter(r)
		x := api.Letter{UID: r.Intn(100), Flags: uint8(r.Intn(256)), Bytes: append(make([]byte, 0, len(letter)+8), letter...)}
		l := of(see(api.SeeUID), see(api.SeeFlags), see(api.SeeSize), see(api.SeeEnvelope), see(api.SeeStructure), body(paths[r.Intn(len(paths))]), part(paths[r.Intn(len(paths))], r.Intn(40), 1+r.Intn(40)), fields([]string{"subject", "TO", "from", "x"}[:1+r.Intn(4)]...))
		r.Shuffle(len(l), func(i, j int) { l[i], l[j] = l[j], l[i] })
		l = l[:1+r.Intn(len(l))]
		kept, uid := copied(l), r.Intn(2) == 0
		var want []string
		if uid && !slices.ContainsFunc(l, func(x api.Item) bool { return x.See == api.SeeUID }) {
			want = append(want, "UID "+strconv.Itoa(x.UID))
		}
		for _, i := range l {
			want = append(want, tellAgain(x, i))
		}
		got, e := view.Fetch(5, x, l, uid)
		if got != "* 5 FETCH ("+strings.Join(want, " ")+")" || e != api.OK {
			t.Fatalf("Fetch(%q, %v) = %q, %d, want %q", letter, l, got, e, want)
		}
		if string(x.Bytes) != letter || !bytes.Equal(x.Bytes[len(letter):cap(x.Bytes)], make([]byte, cap(x.Bytes)-len(letter))) || !alike(l, kept) {
			t.Fatalf("Fetch(%q, %v) changed something", letter, kept)
		}
		togethers(t, r, x, paths[r.Intn(len(paths))])
	}
	for _, s := range []string{rep("\r\n", 1<<20), rep("A: b\r\n", 1<<18), rep("Content-Type: message/rfc822\r\n\r\n", 1<<14), rep("\x00", 1<<20), "From: " + rep("a@b,", 200)} {
		view.Envelope([]byte(s))
		for _, i := range rights {
			view.Fetch(1, api.Letter{Bytes: []byte(s)}, of(i), true)
		}
	}
}

// togethers holds the parts of a section, one behind the other, against the section (P20.6).
func togethers(t *testing.T, r *rand.Rand, x api.Letter, path string) {
	t.Helper()
	from, to, e := mime.Section(x.Bytes, path)
	if e != api.OK {
		return
	}
	all, size := "", 1+r.Intn(30)
	for at := 0; at <= to-from; at += size {
		s, _ := view.Fetch(1, x, of(part(path, at, size)), false)
		_, bytes, _ := strings.Cut(s, "}\r\n")
		all += strings.TrimSuffix(bytes, ")")
	}
	if all != string(x.Bytes[from:to]) {
		t.Fatalf("the parts of %q in %q are %q", path, x.Bytes, all)
	}
}
