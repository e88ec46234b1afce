package view_test

import (
	"math/rand"
	"regexp"
	"slices"
	"strconv"
	"strings"
	"testing"

	"pigeonhole/api"
	"pigeonhole/view"
)

// parses holds what Parse tells of a text against what is wanted.
func parses(t *testing.T, s string, want ...api.Item) {
	t.Helper()
	if l, e := view.Parse(s); !alike(l, want) || e != api.OK {
		t.Errorf("Parse(%.300q) = %v, %d, want %v", s, l, e, want)
	}
}

// refuses holds the error that Parse tells of a text against what is wanted.
func refuses(t *testing.T, want api.Errno, s string) {
	t.Helper()
	if l, e := view.Parse(s); len(l) != 0 || e != want {
		t.Errorf("Parse(%.300q) = %.300q, %d, want %d", s, told(l), e, want)
	}
}

// prints holds what Print tells of items against what is wanted.
func prints(t *testing.T, want string, l ...api.Item) {
	t.Helper()
	if s, e := view.Print(l); s != want || e != api.OK {
		t.Errorf("Print(%v) = %.900q, %d, want %.900q", l, s, e, want)
	}
	parses(t, want, l...)
}

// P20.2, P20.5 (M1): each item.
func TestItems(t *testing.T) {
	for s, x := range map[string]api.Item{
		"UID": see(api.SeeUID), "FLAGS": see(api.SeeFlags), "RFC822.SIZE": see(api.SeeSize), "ENVELOPE": see(api.SeeEnvelope), "BODYSTRUCTURE": see(api.SeeStructure),
		"BODY.PEEK[]": body(""), "BODY.PEEK[1]": body("1"), "BODY.PEEK[1.2.TEXT]": body("1.2.TEXT"), "BODY.PEEK[HEADER]": body("HEADER"), "BODY.PEEK[4294967295.MIME]": body("4294967295.MIME"),
		"BODY.PEEK[]<0.1>": part("", 0, 1), "BODY.PEEK[1.TEXT]<0.20>": part("1.TEXT", 0, 20), "BODY.PEEK[TEXT]<4294967295.4294967295>": part("TEXT", top, top),
		"BODY.PEEK[HEADER.FIELDS (To)]": fields("To"), "BODY.PEEK[HEADER.FIELDS (Subject TO to x-<0.5>)]": fields("Subject", "TO", "to", "x-<0.5>"), "BODY.PEEK[HEADER.FIELDS (" + rep("n", 24) + rep(" a", 15) + ")]": fields(append([]string{rep("n", 24)}, slices.Repeat([]string{"a"}, 15)...)...),
	} {
		prints(t, "("+s+")", x)
		prints(t, "("+s+rep(" "+s, 11)+")", slices.Repeat(of(x), 12)...)
		prints(t, "("+s+" FLAGS "+s+")", x, see(api.SeeFlags), x)
		parses(t, s, x)
		refuses(t, api.ErrLimit, "("+s+rep(" "+s, 12)+")")
		refuses(t, api.ErrForm, s+" "+s)
		if x.See != api.SeeFields { // whose names stay as they are
			parses(t, strings.ToLower(s), x)
			parses(t, "("+strings.ToLower(s)+" "+s+")", x, x)
		}
	}
	parses(t, "body.peek[header.fields (From tO)]", fields("From", "tO"))
	parses(t, "(Body.Peek[Header.Fields (From tO)] uId)", fields("From", "tO"), see(api.SeeUID))
	parses(t, "Body.Peek[1.tExT]<5.6>", part("1.TEXT", 5, 6))
	for _, x := range rights {
		s, e := view.Print(of(x))
		if e != api.OK {
			t.Errorf("Print(%.300q) is told %d", told(of(x)), e)
		}
		parses(t, s, x)
	}
}

// P20.2, Example 2: words that stand for several items.
func TestMacros(t *testing.T) {
	l := of(see(api.SeeFlags), see(api.SeeSize), see(api.SeeEnvelope), see(api.SeeStructure))
	for s, n := range map[string]int{"fast": 2, "FAST": 2, "Fast": 2, "all": 3, "aLL": 3, "full": 4, "FulL": 4} {
		parses(t, s, l[:n]...)
		for _, s := range []string{"(" + s + ")", s + " uid", s + " ", " " + s, "(uid " + s + ")", s + s, "(" + s} {
			refuses(t, api.ErrForm, s)
		}
	}
}

// P20.2: what is none.
func TestParseForm(t *testing.T) {
	for _, s := range []string{
		"", " ", "(", ")", "()", "( )", "x", "(uid", "uid)", "(uid))", "((uid))", "( uid)", "(uid )", " uid", "uid ", "(uid  flags)", "(uid\tflags)", "(uid,flags)", "(uid)flags", "(uid) flags", "(uid (flags))", "uid(flags)", "(uid)(flags)", "uidx", "ui", "uid\r\n", "\xff", "ſize",
		"body", "body[]", "body[1]", "body.peek", "body.peek[", "body.peek]", "body.peek[1", "body.peek []", "body.peek[]x", "body.peek[] ", "body.peek[]]", "rfc822", "rfc822.text", "internaldate", "envelope[]", "flags[]", "uid<0.1>", "bodystructure<0.1>", "BODY.PEEK", "rfc822 size", "body.peek[1](uid)", "(body.peek[1]uid)",
		"body.peek[]<", "body.peek[]<>", "body.peek[]<0>", "body.peek[]<0.>", "body.peek[]<.1>", "body.peek[]<.>", "body.peek[]<0.1", "body.peek[]<0.1>x", "body.peek[]<0.1><0.1>", "body.peek[]<01.1>", "body.peek[]<0.01>", "body.peek[]<-1.1>", "body.peek[]<0.4294967296>", "body.peek[]<4294967296.1>", "body.peek[]<0.1.2>", "body.peek[]< 0.1>", "body.peek[]<0 1>", "body.peek[]<0.1 >", "body.peek[] <0.1>", "body.peek[]>0.1<", "body.peek[]<a.b>", "body.peek[<0.1>",
		"body.peek[header.fields", "body.peek[header.fields (", "body.peek[header.fields (to", "body.peek[header.fields (to]", "body.peek[header.fields to]", "body.peek[header.fields (to) ]", "body.peek[header.fields (to)x]", "body.peek[header.fields (to)]<0.1>", "body.peek[header.fields (to)", "body.peek[HEADER.FIELDS (TO)]]", "body.peek[header.fields (]",
		// Check's error
		"body.peek[x]", "body.peek[0]", "body.peek[1.]", "body.peek[mime]", "body.peek[1.mıme]", "body.peek[ ]", "body.peek[(]", "body.peek[)]", "body.peek[[]", "body.peek[\xff]", "body.peek[]<0.0>", "body.peek[1]<5.0>", "body.peek[header.fields]", "body.peek[header.fields ]", "body.peek[header.fields(to)]", "body.peek[header.fields  (to)]", "body.peek[header.fields.not (to)]", "body.peek[1.header.fields (to)]", "body.peek[header.fields\t(to)]",
		"body.peek[header.fields ()]", "body.peek[header.fields ( )]", "body.peek[header.fields ( to)]", "body.peek[header.fields (to )]", "body.peek[header.fields (to  cc)]", "body.peek[header.fields (a:b)]", "body.peek[header.fields ((to))]", "body.peek[header.fields (\"to\")]", "body.peek[header.fields (to\tcc)]", "body.peek[header.fields (" + rep("n", 25) + ")]", "body.peek[header.fields (a" + rep(" a", 16) + ")]", "body.peek[header.fields (a" + rep(" a", 1<<18) + ")]", "body.peek[header.fields (" + rep(" ", 1<<20) + ")]",
		rep("(", 1<<20), rep("x", 1<<20), "body.peek[" + rep("1", 1<<20), "body.peek[" + rep("1", 1<<20) + "]", "body.peek[]<" + rep("1", 1<<20) + ".1>", "(" + rep("uid ", 1<<18), "(" + rep("uid ", 1<<18) + ")", rep(" ", 1<<20),
	} {
		refuses(t, api.ErrForm, s)
		if len(s) < 2000 {
			refuses(t, api.ErrForm, "(flags "+s+")")
			refuses(t, api.ErrForm, "("+s+" flags)")
		}
	}
}

// P20.2: items that stand side by side, without ( and ), are none.
func TestParseBare(t *testing.T) {
	for _, s := range []string{"uid flags", "uid flags)", "body.peek[] uid", "body.peek[header.fields (to)] uid", "uid (flags)", "fast full"} {
		refuses(t, api.ErrForm, s)
	}
}

// P20.2: the form goes ahead of Check's error, and in that, how many they are.
func TestParseOrder(t *testing.T) {
	refuses(t, api.ErrLimit, "(body.peek[x]"+rep(" uid", 12)+")")
	refuses(t, api.ErrLimit, "(body.peek[header.fields (a:b)]"+rep(" uid", 12)+")")
	refuses(t, api.ErrLimit, "(uid"+rep(" body.peek[]<0.0>", 12)+")")
	refuses(t, api.ErrForm, "(body.peek[x]"+rep(" uid", 11)+")")
	refuses(t, api.ErrForm, "(uid"+rep(" uid", 12)+" x)")
	refuses(t, api.ErrForm, "(uid"+rep(" uid", 12)+" )")
	refuses(t, api.ErrForm, "(uid"+rep(" uid", 12))
	refuses(t, api.ErrForm, "(uid"+rep(" uid", 1000)+" body.peek[]<0.01>)")
	refuses(t, api.ErrLimit, "(uid"+rep(" uid", 1<<18)+")")
	refuses(t, api.ErrLimit, "(uid"+rep(" body.peek[x y z]", 12)+")")
	refuses(t, api.ErrForm, "(uid"+rep(" uid", 12)+" body.peek[header.fields (x])")
	refuses(t, api.ErrForm, "(uid"+rep(" uid", 12)+" body.peek[Header.Fields (])") // no path begins so
	refuses(t, api.ErrLimit, "(uid"+rep(" uid", 12)+" body.peek[Header.Fields ])")
}

const numberForm = `(0|[1-9][0-9]*)`

var (
	itemForm   = regexp.MustCompile(`(?is)^(?:(UID|FLAGS|RFC822\.SIZE|ENVELOPE|BODYSTRUCTURE)|BODY\.PEEK\[(?:HEADER\.FIELDS \(([^\]]*)\)\]|([^\]]*)\](?:<` + numberForm + `\.` + numberForm + `>)?))( |\)$|$)`)
	fieldsHead = regexp.MustCompile(`(?i)^HEADER\.FIELDS \(`)
)

// parseAgain is Parse, said another way: items are cut off by what they look like.
func parseAgain(s string) ([]api.Item, api.Errno) {
	l := of(see(api.SeeFlags), see(api.SeeSize), see(api.SeeEnvelope), see(api.SeeStructure))
	if n := slices.Index([]string{"FAST", "ALL", "FULL"}, strings.ToUpper(s)); n >= 0 {
		return l[:n+2], api.OK
	}
	listed := strings.HasPrefix(s, "(")
	s = strings.TrimPrefix(s, "(")
	l = nil
	for {
		m := itemForm.FindStringSubmatch(s)
		if m == nil {
			return nil, api.ErrForm
		}
		peek := strings.IndexByte(s, '[')
		switch {
		case m[1] != "":
			l = append(l, see(map[string]api.See{"UID": 1, "FLAGS": 2, "RFC822.SIZE": 3, "ENVELOPE": 4, "BODYSTRUCTURE": 5}[strings.ToUpper(m[1])]))
		case !fieldsHead.MatchString(s[peek+1:]):
			x := body(strings.ToUpper(m[3]))
			if m[5] != "" {
				from, a := strconv.Atoi(m[4])
				size, b := strconv.Atoi(m[5])
				if a != nil || b != nil || from > top || size > top {
					return nil, api.ErrForm
				}
				x = part(x.Path, from, size)
			}
			l = append(l, x)
		case strings.HasSuffix(m[0], "]"+m[6]) && m[3] == "":
			l = append(l, fields(strings.Split(m[2], " ")...))
		default:
			return nil, api.ErrForm
		}
		s = s[len(m[0]):]
		if m[6] != " " && listed == (m[6] == ")") && s == "" {
			return l, view.Check(l)
		} else if m[6] != " " || !listed {
			return nil, api.ErrForm
		}
	}
}

// P20.2, P20.5 (M1), P1, P3, P6: random texts.
func TestParseOfAny(t *testing.T) {
	r := rand.New(rand.NewSource(202))
	some := []string{
		"uid", "FLAGS", "Rfc822.Size", "envelope", "BODYSTRUCTURE", "body.peek[]", "BODY.PEEK[1.text]", "body.peek[HEADER]<0.5>", "body.peek[2.mime]<7.4294967295>", "body.peek[header.fields (To)]", "BODY.PEEK[HEADER.FIELDS (to From x-y)]", "body.peek[1.1]",
	}
	others := []string{"fast", "all", "full", "x", "", "body.peek[x]", "body.peek[]<0.0>", "body.peek[]<0.01>", "body.peek[]<1.4294967296>", "body.peek[header.fields (a:b)]", "body.peek[header.fields ()]", "body.peek[header.fields (to]", "body.peek[header.fields to)]", "uid ", " flags", "(uid)", "body.peek[(a b)]", "body.peek[header.fields (to)]<0.1>", "body.peek[1"}
	seen := map[api.Errno]int{}
	for i := range 60000 {
		var l []string
		for range 1 + r.Intn(3)*r.Intn(7) {
			l = append(l, some[r.Intn(len(some))])
			if r.Intn(20) == 0 {
				l = append(l, others[r.Intn(len(others))])
			}
		}
		s := "(" + strings.Join(l, " ") + ")"
		switch i % 10 {
		case 0: // a letter less
			n := r.Intn(len(s))
			s = s[:n] + s[n+1:]
		case 1: // a letter more
			n := r.Intn(len(s) + 1)
			s = s[:n] + string("() []<>.10xX\x00\xff"[r.Intn(14)]) + s[n:]
		case 2:
			s = append(some, others...)[r.Intn(len(some)+len(others))]
		}
		got, e := view.Parse(s)
		want, fault := parseAgain(s)
		if fault != api.OK {
			want = nil
		}
		if !alike(got, want) || e != fault {
			t.Fatalf("Parse(%q) = %v, %d, want %v, %d", s, got, e, want, fault)
		}
		seen[e]++
		if e != api.OK {
			continue
		}
		again, _ := view.Parse(s)
		for _, x := range again {
			clear(x.Names)
		}
		clear(again)
		if !alike(got, want) {
			t.Fatalf("two lists of Parse(%q) lie in one another", s)
		}
		printed, e := view.Print(got)
		if e != api.OK {
			t.Fatalf("Print(%v) is told %d", got, e)
		}
		parses(t, printed, got...)
	}
	for _, e := range []api.Errno{api.OK, api.ErrForm, api.ErrLimit} {
		if seen[e] < 1000 {
			t.Errorf("only %d are told as %d", seen[e], e)
		}
	}
}

// P20.5 (M1): Parse of Print are the items.
func TestParseOfPrint(t *testing.T) {
	r := rand.New(rand.NewSource(205))
	for range 5000 {
		var l []api.Item
		for range 1 + r.Intn(12) {
			l = append(l, rights[r.Intn(len(rights))])
		}
		s, e := view.Print(l)
		if e != api.OK {
			t.Fatalf("Print(%.300q) is told %d", told(l), e)
		}
		parses(t, s, l...)
		if t.Failed() {
			t.FailNow()
		}
	}
}
