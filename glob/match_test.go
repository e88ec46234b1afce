package glob_test

import (
	"math/rand"
	"strings"
	"testing"
	"time"

	"pigeonhole/deed"
	"pigeonhole/glob"
)

// rep is a text n times.
func rep(s string, n int) string { return strings.Repeat(s, n) }

// matches holds what Match tells of names against what is wanted.
func matches(t *testing.T, pattern string, want bool, names ...string) {
	t.Helper()
	for _, name := range names {
		if glob.Match(pattern, name) != want {
			t.Errorf("Match(%.60q, %.60q) is not %v", pattern, name, want)
		}
	}
}

// P18.1, P18.3, Example 1
func TestMatch(t *testing.T) {
	matches(t, "a%", false, "a/b", "", "b", "ba", "A", "a/", "/a")
	matches(t, "a%", true, "a", "ab", "abc", "a*", "a%", "a\n", "aä", "a\xff", "a\x00")
	matches(t, "a*", true, "a", "ab", "a/b", "a/", "a//", "a/b/c", "a*", "a\n/\xff")
	matches(t, "a*", false, "", "b", "ba", "/a", "A", "A/b")
	matches(t, "*", true, "", "a", "/", "a/b/c", "\xff\x00", "INBOX", rep("a/", 5000))
	matches(t, "%", true, "", "a", "*", "INBOX", "\xff\x00ä\n", rep("a", 5000))
	matches(t, "%", false, "/", "a/b", "/a", "a/", rep("a", 5000)+"/")
	matches(t, "", true, "")
	matches(t, "", false, "a", "/", "*", "%", "INBOX")
	matches(t, "%/%", true, "/", "a/b", "a/", "/b")
	matches(t, "%/%", false, "", "ab", "//", "a/b/c", "a/b/")
	matches(t, "*/%", true, "a/b", "a/b/c", "/", "//", "a/")
	matches(t, "*/%", false, "", "a")
	matches(t, "%/*", true, "a/b", "a/b/c", "/")
	matches(t, "a%c", true, "ac", "abc", "acc", "abcbc")
	matches(t, "a%c", false, "a/c", "ab/c", "acb", "abcb", "a", "c")
	matches(t, "a*c", true, "ac", "a/c", "abc", "a/b/c", "acbc")
	matches(t, "%a%/b", true, "a/b", "xax/b", "aa/b")
	matches(t, "%a%/b", false, "a/x/b", "x/b", "xa/a/b", "/b")
	matches(t, "**", true, "", "a/b")
	matches(t, "%%", true, "", "a", "ab")
	matches(t, "%%", false, "a/b")
	matches(t, "*%", true, "", "a", "a/", "a/b")
	matches(t, "%*", true, "", "a", "a/", "/b")
	matches(t, "ä%", true, "ä", "äb")
	matches(t, "\xc3%", true, "ä") // by bytes
	matches(t, "%\xa4", true, "ä")
	matches(t, "?", true, "?")
	matches(t, "?", false, "a", "")
	matches(t, "[a]\\.", true, "[a]\\.")
	matches(t, "\\*", true, "\\", "\\a/b")
	matches(t, "\\*", false, "*")
}

// P18.1: a pattern comes back, to the last % or to the last *.
func TestMatchBack(t *testing.T) {
	matches(t, "*ab", true, "aab", "abab", "ab/ab", "aaab", "/ab")
	matches(t, "*ab", false, "aba", "abb", "a", "b", "")
	matches(t, "%ab", true, "aab", "abab", "ab")
	matches(t, "%ab", false, "ab/ab", "/ab", "aba")
	matches(t, "*a%b", true, "ab", "acb", "a/ab", "a/a/acb", "aa/acb", "a/aab")
	matches(t, "*a%b", false, "a/b", "a/acb/", "a/ac/b", "b", "a", "ba")
	matches(t, "*/a%/b", true, "/a/b", "/a/ac/b", "/ac/a/b", "x/a/c/ab/b")
	matches(t, "*/a%/b", false, "/a/c/b", "a/b", "/ac/c/b")
	matches(t, "*a/%b%c", true, "a/a/bc", "a/c/a/xbxc", "a/b/a/bc", "a/a/bcbc")
	matches(t, "*a/%b%c", false, "a/b/c", "a/x/bc", "a/bcb", "a/bb/c")
	matches(t, "%a*b", true, "ab", "xa/b", "a/b/b")
	matches(t, "%a*b", false, "x/ab", "a/", "b")
	matches(t, "*aab", true, "aaab", "aaaab", "aab/aab")
	matches(t, "a*b*c", true, "abc", "a/b/c", "abbcc", "abcbc", "acbc")
	matches(t, "a*b*c", false, "acb", "ac", "abcb")
}

// P18.1: INBOX.
func TestMatchInbox(t *testing.T) {
	for _, inbox := range []string{"INBOX", "inbox", "InBoX", "iNbOx"} {
		matches(t, inbox, true, "INBOX", "inbox", "iNBOX", inbox)
		matches(t, inbox, false, "", "INBO", "INBOXX", "INBOX/", "INBOX/a", "XINBOX", "/INBOX")
		matches(t, inbox+"*", true, "INBOX", "inbox", "inbox/", "Inbox/a/b", inbox+"x", inbox+"ES/a")
		matches(t, inbox+"%", true, "INBOX", "inbox", inbox+"x")
		matches(t, inbox+"%", false, "INBOX/", "inbox/a", inbox+"x/y")
		matches(t, inbox+"/%", true, "INBOX/", "inbox/A", "Inbox/a")
		matches(t, inbox+"/%", false, "INBOX", "inbox/a/b", "inbox//", inbox+"x/a")
		matches(t, inbox+"/a", true, "INBOX/a", "inbox/a", "Inbox/a")
		matches(t, inbox+"/a", false, "INBOX/A", "inbox/b", "INBOX", "Inboxx/a")
		// What goes on behind the five bytes is another box, and there letters are as they are.
		for _, other := range []string{"INBOX", "inbox", "InBoX", "iNbOx"} {
			for _, rest := range []string{"x", "es", "0", " ", "X/a", "\\/a", "\xff", "*", "INBOX"} {
				matches(t, inbox+rest, inbox == other, other+rest)
				matches(t, inbox+"*", inbox == other, other+rest)
			}
			matches(t, inbox+"%x", inbox == other, other+"ax")
			matches(t, "a/"+inbox, inbox == other, "a/"+other)
			matches(t, "a"+inbox, inbox == other, "a"+other)
			matches(t, inbox[:4]+"%", inbox[:4] == other[:4], other)
			matches(t, "%"+inbox, inbox == other, other)
			matches(t, "*"+inbox[1:], inbox == other || inbox == "InBoX" && other == "inboX", other)
			matches(t, inbox[:1]+"*", inbox[:1] == other[:1], other)
			matches(t, inbox[:4], inbox[:4] == other[:4], other[:4])
		}
	}
	matches(t, "inbo", false, "INBO")
	matches(t, "iNBOX/*INBOX", true, "InBOX/INBOX")
	matches(t, "iNBOX/*INBOX", false, "InBOX/inbox")
	matches(t, "inbox*", false, "", "i", "INBO", "a", "/INBOX", "INBOXES", "INBOXES/INBOX")
	matches(t, "inbox*a", true, "INBOX/a", "inboxa", "inbox/bca")
	matches(t, "inbox*a", false, "INBOXa", "INBOX/b", "INBOX")
	matches(t, "ınbox", false, "INBOX") // no letter of A to Z
	matches(t, "INBOX", false, "ınbox", "İNBOX")
}

// matchAgain is Match, said another way: by a table of which beginnings match.
func matchAgain(pattern, name string) bool {
	if len(pattern) >= 5 && len(name) >= 5 && strings.EqualFold(pattern[:5], "INBOX") && strings.EqualFold(name[:5], "INBOX") && (len(name) == 5 || name[5] == '/') {
		pattern, name = pattern[5:], name[5:]
	}
	now := make([]bool, len(name)+1) // does the pattern up to here match so many bytes of the name?
	now[0] = true
	for p := range len(pattern) {
		next := make([]bool, len(name)+1)
		for n := range next {
			switch pattern[p] {
			case '*':
				next[n] = now[n] || n > 0 && next[n-1]
			case '%':
				next[n] = now[n] || n > 0 && next[n-1] && name[n-1] != '/'
			default:
				next[n] = n > 0 && now[n-1] && name[n-1] == pattern[p]
			}
		}
		now = next
	}
	return now[len(name)]
}

// of is all texts of up to so many of some pieces.
func of(n int, pieces ...string) []string {
	l := []string{""}
	for i, from := 0, 0; i < n; i++ {
		for _, s := range l[from:] {
			from++
			for _, piece := range pieces {
				l = append(l, s+piece)
			}
		}
	}
	return l
}

// P18.1: all short patterns and names of a few letters.
func TestMatchOfFew(t *testing.T) {
	names := of(5, "a", "b", "/")
	for _, pattern := range of(5, "a", "/", "*", "%") {
		for _, name := range names {
			if got := glob.Match(pattern, name); got != matchAgain(pattern, name) {
				t.Fatalf("Match(%q, %q) = %v", pattern, name, got)
			}
		}
	}
	names = of(4, "inbox", "INBOX", "i", "x", "/")
	for _, pattern := range of(4, "Inbox", "i", "x", "/", "*", "%") {
		for _, name := range names {
			if got := glob.Match(pattern, name); got != matchAgain(pattern, name) {
				t.Fatalf("Match(%q, %q) = %v", pattern, name, got)
			}
		}
	}
}

// P18.1: random ones, longer.
func TestMatchOfAny(t *testing.T) {
	r := rand.New(rand.NewSource(181))
	text := func(most int, pieces ...string) string {
		var s strings.Builder
		for range r.Intn(most + 1) {
			s.WriteString(pieces[r.Intn(len(pieces))])
		}
		return s.String()
	}
	told := map[bool]int{}
	for range 300000 {
		name := text(16, "a", "b", "/", "a", "ab")
		pattern := text(10, "a", "b", "/", "*", "%", "%", "ab")
		if r.Intn(3) == 0 { // one that was made of the name
			b := []byte(name)
			for range r.Intn(6) {
				if from := r.Intn(len(b) + 1); from < len(b) {
					to := from + 1 + r.Intn(min(4, len(b)-from))
					b = append(append(append([]byte(nil), b[:from]...), "*%"[r.Intn(2)]), b[to:]...)
				}
			}
			pattern = string(b)
		}
		got := glob.Match(pattern, name)
		if got != matchAgain(pattern, name) {
			t.Fatalf("Match(%q, %q) = %v", pattern, name, got)
		}
		told[got]++
	}
	if told[true] < 20000 || told[false] < 20000 {
		t.Errorf("only %v are told", told)
	}
}

// P18.3 (M1): a name without stars matches itself and nothing else; * matches all, % all without a /.
func TestMatchFollows(t *testing.T) {
	names := append(of(3, "a", "b", "A", "/", "inbox", "INBOX", "ä"), of(3, "\x00", "\xff", "/", "*", "%", "Inbox")...)
	for _, pattern := range names {
		matches(t, "*", true, pattern)
		matches(t, "%", !strings.Contains(pattern, "/"), pattern)
		if strings.ContainsAny(pattern, "*%") {
			continue
		}
		root, rest, _ := strings.Cut(pattern, "/")
		for _, name := range names {
			first, behind, _ := strings.Cut(name, "/")
			want := pattern == name || deed.Fold(root) == "INBOX" && deed.Fold(first) == "INBOX" && rest == behind && strings.Count(pattern, "/") == strings.Count(name, "/")
			if glob.Match(pattern, name) != want {
				t.Fatalf("Match(%q, %q) is not %v", pattern, name, want)
			}
		}
	}
}

// P1: it ends, and soon, however many ways there are.
func TestMatchEnds(t *testing.T) {
	start := time.Now()
	long := rep("a", 100000)
	for _, c := range [][2]string{
		{rep("*a", 30) + "b", long}, {rep("%a", 30) + "b", long}, {rep("*%a", 30) + "b", long + "/"}, {rep("*", 50000) + "b", long}, {rep("%", 50000) + "b", long}, {rep("*%", 50000) + "b", long + "/"},
		{"*a%b", long + "/"}, {"*a%a%a%a%b", long + "/" + long}, {"*/a%b/", rep("/a", 50000)}, {"*/%/%/%/%/%b", rep("/a", 50000)}, {"*a%aaaaaaaab", rep("a", 50000) + "/"}, {"%" + rep("a%", 1000) + "b", rep("a/", 50000)},
		{long, long + "b"}, {"INBOX" + rep("*a", 30) + "b", "inbox/" + long}, {rep("INBOX", 20000), rep("inbox", 20000)},
	} {
		matches(t, c[0], false, c[1])
	}
	matches(t, rep("*a", 1000), true, long)
	matches(t, "*a%b", true, long+"/"+long+"b")
	if took := time.Since(start); took > 20*time.Second {
		t.Errorf("it took %v", took)
	}
}
