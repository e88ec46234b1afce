package glob_test

import (
	"math/rand"
	"slices"
	"strings"
	"testing"

	"pigeonhole/glob"
)

// P18.2, Steps
func TestSteps(t *testing.T) {
	for name, want := range map[string][]string{
		"": nil, "a": {"a"}, "a/b": {"a", "b"}, "a/b/c": {"a", "b", "c"}, "INBOX/x": {"INBOX", "x"}, "/": {"", ""}, "//": {"", "", ""}, "/a": {"", "a"}, "a/": {"a", ""}, "a//b": {"a", "", "b"},
		"a.b\\c": {"a.b\\c"}, "ä/\xff/\x00": {"ä", "\xff", "\x00"}, "*/%": {"*", "%"}, " / ": {" ", " "},
	} {
		got, again := glob.Steps(name), glob.Steps(name)
		if !slices.Equal(got, want) {
			t.Errorf("Steps(%q) = %q, want %q", name, got, want)
		}
		clear(got)
		if !slices.Equal(again, want) {
			t.Errorf("two lists of Steps(%q) lie in one another", name)
		}
		if joined := strings.Join(again, "/"); joined != name {
			t.Errorf("Steps(%q) are %q", name, joined)
		}
	}
	if n := len(glob.Steps(rep("/", 1<<20))); n != 1<<20+1 {
		t.Errorf("%d steps", n)
	}
}

// P18.2, Under
func TestUnder(t *testing.T) {
	for _, c := range []struct {
		name, root string
		want       bool
	}{
		{"a/b", "a", true}, {"a/b/c", "a", true}, {"a/b/c", "a/b", true}, {"a/", "a", true}, {"a//b", "a", true}, {"a//b", "a/", true}, {"//", "/", true}, {"//a", "/", true}, {"ä/\xff", "ä", true}, {"*/a", "*", true},
		{"a", "a", false}, {"ab", "a", false}, {"ab/c", "a", false}, {"a/b", "a/b", false}, {"a/b", "a/", false}, {"a/b", "b", false}, {"a", "a/b", false}, {"b/a", "a", false}, {"A/b", "a", false}, {"a/b", "A", false},
		{"inbox/a", "INBOX", false}, {"x/a/b", "a", false}, {"aa/b", "*", false}, {"aa/b", "%", false},
		{"", "", false}, {"/", "", false}, {"/a", "", false}, {"a/b", "", false}, {"", "a", false}, {"/", "/", false}, {"/a", "/", false},
	} {
		if glob.Under(c.name, c.root) != c.want {
			t.Errorf("Under(%q, %q) is not %v", c.name, c.root, c.want)
		}
	}
}

// P18.2, Moved, Example 2
func TestMoved(t *testing.T) {
	for _, c := range [][4]string{
		{"a/b", "a", "c", "c/b"}, {"a", "a", "c", "c"}, {"a/b/c", "a", "x/y", "x/y/b/c"}, {"a/b/c", "a/b", "d", "d/c"}, {"a/b/c", "a/b/c", "d", "d"}, {"a/", "a", "b", "b/"}, {"a//b", "a", "c", "c//b"}, {"a//b", "a/", "c", "c/b"},
		{"a/a", "a", "a", "a/a"}, {"a/b", "a", "a/b", "a/b/b"}, {"a/b", "a", "", "/b"}, {"a", "a", "", ""}, {"", "", "c", "c"}, {"", "", "", ""}, {"INBOX/a", "INBOX", "inbox", "inbox/a"}, {"ä/\xff", "ä", "\x00", "\x00/\xff"},
	} {
		if got, ok := glob.Moved(c[0], c[1], c[2]); got != c[3] || !ok {
			t.Errorf("Moved(%q, %q, %q) = %q, %v, want %q", c[0], c[1], c[2], got, ok, c[3])
		}
	}
	for _, c := range [][2]string{
		{"a", "b"}, {"ab", "a"}, {"ab/c", "a"}, {"a", "a/b"}, {"a/b", "b"}, {"a/b", "a/"}, {"a", ""}, {"/a", ""}, {"/", ""}, {"", "a"}, {"A/b", "a"}, {"inbox", "INBOX"}, {"inbox/a", "INBOX"}, {"x/a", "a"}, {"aa", "*"},
	} {
		for _, to := range []string{"", "c", c[0], c[1]} {
			if got, ok := glob.Moved(c[0], c[1], to); got != "" || ok {
				t.Errorf("Moved(%q, %q, %q) = %q, %v", c[0], c[1], to, got, ok)
			}
		}
	}
}

// P18.4: moved there and back is the name; what is under a root is under it moved.
func TestMovedFollows(t *testing.T) {
	names, moved := of(4, "a", "b", "/"), 0
	for _, name := range names {
		for _, from := range of(3, "a", "b", "/") {
			there, under := name == from, glob.Under(name, from)
			for _, to := range []string{"a", "b", "ab", "a/b", "/", "c//"} {
				got, ok := glob.Moved(name, from, to)
				if ok != (there || under) {
					t.Fatalf("Moved(%q, %q, %q) is told %v", name, from, to, ok)
				}
				if !ok {
					continue
				}
				moved++
				if back, ok := glob.Moved(got, to, from); back != name || !ok {
					t.Fatalf("Moved(%q, %q, %q) = %q, and back %q, %v", name, from, to, got, back, ok)
				}
				if glob.Under(got, to) != under {
					t.Fatalf("Under(%q, %q) is not as it was, %v", got, to, under)
				}
				for _, root := range names { // roots between, too
					if glob.Under(name, root) && (root == from || glob.Under(root, from)) {
						if elsewhere, _ := glob.Moved(root, from, to); !glob.Under(got, elsewhere) {
							t.Fatalf("%q was under %q, but is not under %q as %q", name, root, elsewhere, got)
						}
					}
				}
			}
		}
	}
	if moved < 500 {
		t.Errorf("only %d are moved", moved)
	}
}

// P18.2, Ahead
func TestAhead(t *testing.T) {
	for _, c := range []struct{ names, want []string }{
		{nil, nil}, {[]string{}, nil}, {[]string{""}, nil}, {[]string{"a"}, nil}, {[]string{"a", "b", "c"}, nil},
		{[]string{"a/b"}, []string{"a"}},
		{[]string{"a/b/c"}, []string{"a", "a/b"}},
		{[]string{"a/b", "a"}, nil},
		{[]string{"a", "a/b"}, nil},
		{[]string{"a/b/c", "a/b"}, []string{"a"}},
		{[]string{"a/b/c", "a"}, []string{"a/b"}},
		{[]string{"a/b", "a/c", "a/b"}, []string{"a"}},
		{[]string{"c/d", "a/b/c", "b/x", "a/c"}, []string{"a", "a/b", "b", "c"}},
		{[]string{"b/x", "B/x", "ä/x", "a/x", "\xff/x", "a!/x"}, []string{"B", "a", "a!", "b", "ä", "\xff"}},
		{[]string{"a/b/x", "a!/x", "a/x"}, []string{"a", "a!", "a/b"}}, // by bytes, not by steps
		{[]string{"inbox/a", "INBOX"}, []string{"inbox"}},
		{[]string{"INBOX/a", "INBOX"}, nil},
		{[]string{"/"}, nil}, {[]string{"/a"}, nil}, {[]string{"a/"}, []string{"a"}}, {[]string{"//"}, []string{"/"}}, {[]string{"//a", "/"}, nil}, {[]string{"a//b"}, []string{"a", "a/"}}, {[]string{"a//b", "a/"}, []string{"a"}},
		{[]string{"a/b", ""}, []string{"a"}}, {[]string{"*/%"}, []string{"*"}},
	} {
		given := slices.Clone(c.names)
		got, again := glob.Ahead(given), glob.Ahead(given)
		if !slices.Equal(got, c.want) {
			t.Errorf("Ahead(%q) = %q, want %q", c.names, got, c.want)
		}
		clear(got[:cap(got)])
		if !slices.Equal(given, c.names) || !slices.Equal(again, c.want) {
			t.Errorf("a list of Ahead(%q) lies in another one", c.names)
		}
	}
}

// P18.2, Pick
func TestPick(t *testing.T) {
	names := []string{"b/c/d", "INBOX", "a", "b/e", "INBOX/x", "a", "f/g"}
	for _, c := range []struct {
		base, pattern string
		want          []string
	}{
		{"", "*", []string{"INBOX", "INBOX/x", "a", "b", "b/c", "b/c/d", "b/e", "f", "f/g"}},
		{"*", "", []string{"INBOX", "INBOX/x", "a", "b", "b/c", "b/c/d", "b/e", "f", "f/g"}},
		{"", "%", []string{"INBOX", "a", "b", "f"}},
		{"b", "/%", []string{"b/c", "b/e"}},
		{"b/", "%", []string{"b/c", "b/e"}},
		{"b/", "*", []string{"b/c", "b/c/d", "b/e"}},
		{"b", "*", []string{"b", "b/c", "b/c/d", "b/e"}},
		{"b", "%", []string{"b"}},
		{"in", "box", []string{"INBOX"}},
		{"in", "box*", []string{"INBOX", "INBOX/x"}},
		{"inbox/", "x", []string{"INBOX/x"}},
		{"", "%/%", []string{"INBOX/x", "b/c", "b/e", "f/g"}},
		{"", "%/%/%", []string{"b/c/d"}},
		{"%", "/d", nil}, {"*", "/d", []string{"b/c/d"}},
		{"", "b", []string{"b"}}, {"b", "", []string{"b"}}, {"", "f/g", []string{"f/g"}}, {"f", "/g", []string{"f/g"}},
		{"", "", nil}, {"", "c", nil}, {"a", "a", nil}, {"b/", "b/%", nil}, {"B", "*", nil},
	} {
		given := slices.Clone(names)
		got := glob.Pick(given, c.base, c.pattern)
		if !slices.Equal(got, c.want) {
			t.Errorf("Pick(.., %q, %q) = %q, want %q", c.base, c.pattern, got, c.want)
		}
		clear(got[:cap(got)])
		if !slices.Equal(given, names) {
			t.Errorf("Pick(.., %q, %q) changed what it was handed, or lies in it", c.base, c.pattern)
		}
	}
	for _, c := range []struct{ names, want []string }{
		{nil, nil}, {[]string{""}, []string{""}}, {[]string{"", "a", ""}, []string{"", "a"}}, {[]string{"/"}, []string{"/"}}, {[]string{"b", "a", "B", "\xff", "ä"}, []string{"B", "a", "b", "ä", "\xff"}},
	} {
		if got := glob.Pick(c.names, "", "*"); !slices.Equal(got, c.want) {
			t.Errorf("Pick(%q, .., *) = %q, want %q", c.names, got, c.want)
		}
	}
	if got := glob.Pick([]string{"", "a"}, "", ""); !slices.Equal(got, []string{""}) {
		t.Errorf("Pick of an empty name = %q", got)
	}
}

// P18.2, P3: random lists, said another way; the spare room behind them stays as it is.
func TestListsOfAny(t *testing.T) {
	r := rand.New(rand.NewSource(182))
	all := of(5, "a", "b", "/")
	slices.Sort(all)
	for range 3000 {
		names := make([]string, 0, 12)
		for range r.Intn(8) {
			names = append(names, all[r.Intn(len(all))])
		}
		names = append(names, "spare", "spare")[:len(names)]
		was := slices.Clone(names[:len(names)+2])
		var ahead, picked []string
		base, pattern := []string{"", "", "a", "b/"}[r.Intn(4)], []string{"*", "%", "%/%", "a*", "*/b"}[r.Intn(5)]
		for _, name := range all { // each root of these names is one of them
			own := slices.Contains(names, name)
			root := slices.ContainsFunc(names, func(s string) bool { return name != "" && strings.HasPrefix(s, name+"/") })
			if root && !own {
				ahead = append(ahead, name)
			}
			if (root || own) && matchAgain(base+pattern, name) {
				picked = append(picked, name)
			}
		}
		if got := glob.Ahead(names); !slices.Equal(got, ahead) {
			t.Fatalf("Ahead(%q) = %q, want %q", names, got, ahead)
		}
		if got := glob.Pick(names, base, pattern); !slices.Equal(got, picked) {
			t.Fatalf("Pick(%q, %q, %q) = %q, want %q", names, base, pattern, got, picked)
		}
		if !slices.Equal(names[:len(names)+2], was) {
			t.Fatalf("a list became %q, from %q", names[:len(names)+2], was)
		}
	}
	// P1: each call ends, of long ones too.
	long := rep("a/", 3000)
	if got := glob.Ahead([]string{long, long + "b"}); len(got) != 3000 {
		t.Errorf("%d names are ahead", len(got))
	}
	glob.Pick([]string{long}, rep("*", 100), rep("%a", 10))
}
