package head_test

import (
	"bytes"
	"math/rand"
	"slices"
	"strings"
	"testing"

	"pigeonhole/api"
	"pigeonhole/head"
)

// folds holds what Fold and Insert tell of a field against what is wanted.
func folds(t *testing.T, name, value, want string) {
	t.Helper()
	if s, e := head.Fold(name, value); s != want || e != api.OK {
		t.Errorf("Fold(%q, %.60q) = %q, %d, want %q", name, value, s, e, want)
	}
	if b, e := head.Insert([]byte("X: y\r\n\r\nz"), name, value); string(b) != want+"X: y\r\n\r\nz" || e != api.OK {
		t.Errorf("Insert(.., %q, %.60q) = %q, %d", name, value, b, e)
	}
}

// unfolds holds the error that Fold and Insert tell of a field against what is wanted.
func unfolds(t *testing.T, name, value string, want api.Errno) {
	t.Helper()
	if s, e := head.Fold(name, value); s != "" || e != want {
		t.Errorf("Fold(%.60q, %.60q) = %.60q, %d, want %d", name, value, s, e, want)
	}
	if b, e := head.Insert([]byte("X: y"), name, value); len(b) != 0 || e != want {
		t.Errorf("Insert(.., %.60q, %.60q) = %.60q, %d, want %d", name, value, b, e, want)
	}
}

// P15.2: where the lines end.
func TestFold(t *testing.T) {
	folds(t, "A", "b", "A: b\r\n")
	folds(t, "A", "", "A: \r\n")
	folds(t, "Subject", "b c\td", "Subject: b c\td\r\n")
	folds(t, "!~", ": ä\xff\x80 :", "!~: : ä\xff\x80 :\r\n")
	folds(t, rep("n", 24), "x", rep("n", 24)+": x\r\n")
	w := rep("w", 38)
	folds(t, "N", w+" "+rep("x", 36), "N: "+w+" "+rep("x", 36)+"\r\n")       // 78 bytes
	folds(t, "N", w+" "+rep("x", 37), "N: "+w+"\r\n "+rep("x", 37)+"\r\n")   // 79
	folds(t, "N", w+"\t"+rep("x", 37), "N: "+w+"\r\n\t"+rep("x", 37)+"\r\n") // the blank stays what it is
	folds(t, "NN", w+" "+rep("x", 36), "NN: "+w+"\r\n "+rep("x", 36)+"\r\n") // the name counts, too
	folds(t, "N", w+" "+rep("ä", 18), "N: "+w+" "+rep("ä", 18)+"\r\n")       // in bytes
	folds(t, "N", w+" "+rep("ä", 18)+"x", "N: "+w+"\r\n "+rep("ä", 18)+"x\r\n")
	folds(t, "N", w+" "+rep("x", 34)+" y z", "N: "+w+" "+rep("x", 34)+" y\r\n z\r\n")
	folds(t, "N", rep("x", 75)+" y", "N: "+rep("x", 75)+"\r\n y\r\n")
	folds(t, "N", rep("x", 74)+"\ty", "N: "+rep("x", 74)+"\r\n\ty\r\n")
	folds(t, "N", rep("x", 73)+"\ty", "N: "+rep("x", 73)+"\ty\r\n")
	// A later line has its blank, and no name.
	folds(t, "N", rep("x", 75)+" "+rep("y", 38)+" "+rep("z", 38), "N: "+rep("x", 75)+"\r\n "+rep("y", 38)+" "+rep("z", 38)+"\r\n")
	folds(t, "N", rep("x", 75)+" "+rep("y", 38)+" "+rep("z", 39), "N: "+rep("x", 75)+"\r\n "+rep("y", 38)+"\r\n "+rep("z", 39)+"\r\n")
	folds(t, "N", rep("x", 75)+" "+rep("y", 77)+" z", "N: "+rep("x", 75)+"\r\n "+rep("y", 77)+"\r\n z\r\n")
}

// P15.2: words that have no room in a line.
func TestFoldLong(t *testing.T) {
	x := rep("x", 900)
	folds(t, "N", x, "N: "+x+"\r\n") // the blank behind the colon stays
	folds(t, rep("n", 24), x, rep("n", 24)+": "+x+"\r\n")
	folds(t, "N", "y "+x, "N: y\r\n "+x+"\r\n")
	folds(t, "N", x+"\ty", "N: "+x+"\r\n\ty\r\n")
	folds(t, "N", "y "+x+" z", "N: y\r\n "+x+"\r\n z\r\n")
	folds(t, "N", rep("x", 76)+" "+rep("y", 78), "N: "+rep("x", 76)+"\r\n "+rep("y", 78)+"\r\n")
	folds(t, "N", x+" "+rep("z", 123), "N: "+x+"\r\n "+rep("z", 123)+"\r\n") // 1024 bytes
	folds(t, "N", rep("a ", 511)+"ab", "N:"+rep(" a", 38)+"\r\n"+rep(rep(" a", 39)+"\r\n", 12)+rep(" a", 5)+" ab\r\n")
	for value, want := range map[string]api.Errno{
		x + "x": api.ErrLimit, "y " + x + "x": api.ErrLimit, x + "x y": api.ErrLimit, "a\t" + x + "x\tb": api.ErrLimit, rep("ä", 450) + "x": api.ErrLimit,
		x + " " + rep("z", 124): api.ErrLimit, rep("a ", 512) + "a": api.ErrLimit, rep("x", 1<<20): api.ErrLimit, rep("a ", 1<<20) + "a": api.ErrLimit,
		x + "x ": api.ErrForm, " " + x + "x": api.ErrForm, rep("a ", 600): api.ErrForm, rep("x", 2000) + "\n": api.ErrForm, rep("x", 2000) + "\x7f": api.ErrForm,
	} {
		unfolds(t, "N", value, want)
		unfolds(t, "N:", value, api.ErrForm) // the form goes ahead of the limit
	}
}

// P15.2: names and values that are not right.
func TestFoldForm(t *testing.T) {
	for _, name := range []string{"", ":", "a:", ":a", "a b", " a", "a ", "\ta", "a\r\n", "a\x00", "\x1f", "\x7f", "ä", "a\x80", "\xff", rep("n", 25), rep("n", 1<<20)} {
		for _, value := range []string{"", "x", " ", rep("x", 2000)} {
			unfolds(t, name, value, api.ErrForm)
		}
	}
	for _, value := range []string{
		" ", "\t", " a", "a ", "\ta", "a\t", "  ", "a  b", "a \tb", "a\t b", "a\t\tb", "a\r\n b", "a\nb", "a\rb", "\n", "a\x00b", "\x00", "a b c ", "a b  c",
	} {
		unfolds(t, "N", value, api.ErrForm)
	}
	for c := range 256 {
		value := "a" + string([]byte{byte(c)}) + "b"
		if c < 32 && c != 9 || c == 127 {
			unfolds(t, "N", value, api.ErrForm)
			unfolds(t, "N", value[1:], api.ErrForm)
			unfolds(t, "N", value[:2], api.ErrForm)
		} else {
			folds(t, "N", value, "N: "+value+"\r\n")
		}
	}
}

// some is a random value that is right.
func some(r *rand.Rand) string {
	var s strings.Builder
	for s.Len() < r.Intn(1000) {
		size := []int{1, 2, 5, 10, 30, 60, 75, 76, 77, 78, 79, 200, 900}[r.Intn(1+r.Intn(13))]
		if s.Len() > 0 {
			s.WriteString([]string{" ", " ", "\t"}[r.Intn(3)])
		}
		s.WriteString(rep([]string{"x", ":", "\xff", "~"}[r.Intn(4)], size))
	}
	return s.String()
}

// P15.5 (M1), P15.7: Split of Fold is the name and the value; a blank stays in its line if it may, and else begins one.
func TestFoldFollows(t *testing.T) {
	r := rand.New(rand.NewSource(155))
	taken, long := 0, 0
	for range 5000 {
		name, value := rep("n", 1+r.Intn(24)), some(r)
		s, e := head.Fold(name, value)
		if len(value) > api.MaxText {
			unfolds(t, name, value, api.ErrLimit)
			continue
		}
		taken++
		if l, n, fault := head.Split([]byte(s)); e != api.OK || fault != api.OK || n != len(s) || len(l) != 1 || l[0] != field(name, value, 0) {
			t.Fatalf("Split of Fold(%q, %q) = %v, %d, %d", name, value, l, n, fault)
		}
		lines := strings.SplitAfter(s, "\r\n")
		if lines[len(lines)-1] != "" || strings.Join(lines, "") != s {
			t.Fatalf("Fold(%q, %q) = %q has no line's end", name, value, s)
		}
		for i, line := range lines[:len(lines)-1] {
			line = strings.TrimSuffix(line, "\r\n")
			if i == 0 {
				line = line[len(name)+1:]
			}
			if len(line) > 0 && strings.Trim(line[:1], " \t") != "" {
				t.Fatalf("Fold(%q, %q) = %q", name, value, s)
			}
			// One word alone may have no room; more than one have it, with the name.
			if size := len(line) + (len(name)+1)*(1-min(i, 1)); size > 78 {
				long++
				if strings.ContainsAny(line[1:], " \t") {
					t.Fatalf("Fold(%q, %q) = %q has a line that is too long", name, value, s)
				}
			} else if next := lines[i+1]; next != "" {
				word := strings.TrimSuffix(next, "\r\n")
				if end := strings.IndexAny(word[1:], " \t"); end >= 0 {
					word = word[:end+1]
				}
				if size+len(word) <= 78 {
					t.Fatalf("Fold(%q, %q) = %q has a line's end where a blank could stay", name, value, s)
				}
			}
		}
	}
	if taken < 3000 || long < 300 {
		t.Errorf("only %d are folded, with %d long lines", taken, long)
	}
}

// P15.5 (M1), P3: a letter with a field inserted has this one ahead of its own, and its body.
func TestInsert(t *testing.T) {
	r := rand.New(rand.NewSource(255))
	for _, letter := range []string{
		"", "\r\n", "\r\nbody", "A: b", "A: b\r\n", "A: b\r\n\r\n", "A: b\r\n c\r\nD: e\r\n\r\nbody\r\n\r\nX: y", "A:\r\n\t\r\n\r\n\x00\xff", rep("A: b\r\n", 39) + "\r\n" + rep("x", 5000),
	} {
		own, body, e := head.Split([]byte(letter))
		if e != api.OK {
			t.Fatalf("Split(%q) = %d", letter, e)
		}
		for range 30 {
			b := append(make([]byte, 0, len(letter)+5000), letter...)
			value := []string{"", "by here", "a\tb", rep("word ", r.Intn(190)) + "end"}[r.Intn(4)]
			with, e := head.Insert(b, "Received", value)
			folded, _ := head.Fold("Received", value)
			if e != api.OK || string(with) != folded+letter {
				t.Fatalf("Insert(%q, %q) = %q, %d", letter, value, with, e)
			}
			l, n, e := head.Split(with)
			if e != api.OK || string(with[n:]) != letter[body:] || len(l) != len(own)+1 || l[0] != field("Received", value, 0) {
				t.Fatalf("Split of Insert(%q, %q) = %v, %d, %d", letter, value, l, n, e)
			}
			for i, f := range l[1:] {
				if f != field(own[i].Name, own[i].Value, own[i].At+len(folded)) {
					t.Fatalf("behind what is inserted stands %v, want %v", f, own[i])
				}
			}
			if rest := b[len(b):cap(b)]; string(b) != letter || !bytes.Equal(rest, make([]byte, len(rest))) {
				t.Fatal("Insert changed what it was handed")
			}
			was := slices.Clone(with)
			clear(b[:cap(b)])
			if !bytes.Equal(with, was) {
				t.Fatal("what Insert answered lies in what it was handed")
			}
		}
	}
	// It is laid ahead, whatever the letter is.
	for _, letter := range []string{" x", "x", rep("A: b\r\n", 40), rep("x", 2000), "\x00"} {
		if b, e := head.Insert([]byte(letter), "N", "v"); string(b) != "N: v\r\n"+letter || e != api.OK {
			t.Errorf("Insert(%.20q) = %.40q, %d", letter, b, e)
		}
	}
	if b, e := head.Insert(nil, "N", "v"); string(b) != "N: v\r\n" || e != api.OK {
		t.Errorf("Insert(nil) = %q, %d", b, e)
	}
}
