package text_test

import (
	"math"
	"math/rand"
	"strings"
	"testing"
	"unicode/utf8"

	"pigeonhole/api"
	"pigeonhole/text"
)

// odd are texts that are no plain ones: bytes that belong to no letter, letters of many bytes, signs.
var odd = []string{
	"", " ", "a", "INBOX", "A b", "\"", "\\", "\"\"", "\\\"", "ä", "Ä", "\ufffd", "\xff", "\xc3", "\xc3\xa4\xa4",
	"\xed\xa0\x80", "\xc0\x80", "\xf4\x90\x80\x80", "a\x00b", "a\tb", "a\x7fb", "\u0080", "\U0010ffff", "\u212a", "ſ",
	"0", "00", "01", "-1", "+1", "4294967296", strings.Repeat("9", 400), strings.Repeat("a", 1025),
	"\"" + strings.Repeat("ä", 513) + "\"", strings.Repeat("\\", 3000), strings.Repeat(" ", 3000),
}

// letters are what random texts are laid of.
var letters = []string{"a", "Z", "0", " ", "\"", "\\", "ä", "€", "\U0001f4ec", "\ufffd", "\u0080", "~", "{", "."}

// some is a random text of up to n plain letters, the same in each run of the tests.
func some(r *rand.Rand, n int) string {
	var b strings.Builder
	for range r.Intn(n + 1) {
		b.WriteString(letters[r.Intn(len(letters))])
	}
	return b.String()
}

// P1.1
func TestLower(t *testing.T) {
	for s, want := range map[string]string{
		"":                           "",
		"ABCDEFGHIJKLMNOPQRSTUVWXYZ": "abcdefghijklmnopqrstuvwxyz",
		"abcdefghijklmnopqrstuvwxyz": "abcdefghijklmnopqrstuvwxyz",
		"@[`{09 \x00\x7f":            "@[`{09 \x00\x7f",
		"ÄÖÜ İ Σ \u212a ǅ":           "ÄÖÜ İ Σ \u212a ǅ", // of other letters none has a small one
		"äAöBüC":                     "äaöbüc",
		"A\xffB\xc3C\xed\xa0\x80D":   "a\xffb\xc3c\xed\xa0\x80d",
		"\ufffdA":                    "\ufffda",
	} {
		if got := text.Lower(s); got != want {
			t.Errorf("Lower(%q) = %q", s, got)
		}
	}
	for b := range 256 {
		want := string([]byte{byte(b)})
		if b >= 'A' && b <= 'Z' {
			want = string([]byte{byte(b + 32)})
		}
		if got := text.Lower(string([]byte{byte(b)})); got != want {
			t.Errorf("Lower of the byte %d = %q", b, got)
		}
	}
}

// P1.1
func TestSame(t *testing.T) {
	for _, c := range []struct {
		a, b string
		want bool
	}{
		{"", "", true}, {"INBOX", "inBox", true}, {"a", "b", false}, {"a", "", false}, {"", "a", false},
		{"a", "aa", false}, {"ab", "a", false}, {"@", "`", false}, {"[", "{", false}, {"0", "P", false},
		{"ä", "Ä", false}, {"k", "\u212a", false}, {"s", "ſ", false}, {"äA", "äa", true},
		{"\xff", "\xff", true}, {"\xff", "\xfe", false}, {"\xff", "\ufffd", false}, {"A\xff", "a\xff", true},
	} {
		if got := text.Same(c.a, c.b); got != c.want {
			t.Errorf("Same(%q, %q) = %v", c.a, c.b, got)
		}
	}
}

// P1.8
func TestSameFollows(t *testing.T) {
	r := rand.New(rand.NewSource(18))
	texts := append([]string{}, odd...)
	for range 200 {
		texts = append(texts, some(r, 6))
	}
	turn := func(s string) string { // great letters are small ones in it, and small ones great
		b := []byte(s)
		for i, c := range b {
			if c >= 'a' && c <= 'z' || c >= 'A' && c <= 'Z' {
				b[i] = c ^ 32
			}
		}
		return string(b)
	}
	for _, a := range texts {
		if l := text.Lower(a); text.Lower(l) != l {
			t.Errorf("Lower of Lower(%q) = %q", a, text.Lower(l))
		}
		if !text.Same(a, a) || !text.Same(a, turn(a)) || !text.Same(turn(a), a) {
			t.Errorf("%q is not the same as itself in other letters", a)
		}
		for _, b := range texts[:60] {
			if text.Same(a, b) != text.Same(turn(a), b) || text.Same(a, b) != text.Same(b, a) {
				t.Errorf("Same(%q, %q) hangs on great and small letters, or on the order", a, b)
			}
		}
	}
}

// P1.2, and P5: no row of digits goes round.
func TestNumber(t *testing.T) {
	for s, want := range map[string]struct {
		n, at int
		e     api.Errno
	}{
		"0":                         {0, 0, api.OK},
		"7":                         {7, 0, api.OK},
		"10":                        {10, 0, api.OK},
		"1234567890":                {1234567890, 0, api.OK},
		"4294967294":                {4294967294, 0, api.OK},
		"4294967295":                {4294967295, 0, api.OK},
		"4294967296":                {0, 0, api.ErrLimit},
		"9999999999":                {0, 0, api.ErrLimit},
		"18446744073709551616":      {0, 0, api.ErrLimit}, // 2^64
		"18446744073709551623":      {0, 0, api.ErrLimit}, // 2^64 + 7
		"9223372036854775808":       {0, 0, api.ErrLimit}, // 2^63
		"79228162514264337593543":   {0, 0, api.ErrLimit},
		strings.Repeat("9", 100000): {0, 0, api.ErrLimit},
		"":                          {0, 0, api.ErrShort},
		"00":                        {0, 1, api.ErrForm},
		"01":                        {0, 1, api.ErrForm},
		"007":                       {0, 1, api.ErrForm},
		"0x":                        {0, 1, api.ErrForm},
		"0x10":                      {0, 1, api.ErrForm},
		"0ä":                        {0, 1, api.ErrForm},
		"x":                         {0, 0, api.ErrForm},
		"ä1":                        {0, 0, api.ErrForm},
		"\xff1":                     {0, 0, api.ErrForm},
		"+1":                        {0, 0, api.ErrForm},
		"-1":                        {0, 0, api.ErrForm},
		" 1":                        {0, 0, api.ErrForm},
		"1 ":                        {0, 1, api.ErrForm},
		"1_0":                       {0, 1, api.ErrForm},
		"12.5":                      {0, 2, api.ErrForm},
		"12/":                       {0, 2, api.ErrForm},
		"12:":                       {0, 2, api.ErrForm},
		"1e3":                       {0, 1, api.ErrForm},
		"1\x00":                     {0, 1, api.ErrForm},
		"1١":                        {0, 1, api.ErrForm}, // a digit, but none of 0 to 9
		"12\xff":                    {0, 2, api.ErrForm},
		"4294967296x":               {0, 10, api.ErrForm}, // the form is named ahead of the limit
		"04294967296":               {0, 1, api.ErrForm},
	} {
		if n, at, e := text.Number(s); n != want.n || at != want.at || e != want.e {
			t.Errorf("Number(%.30q) = %d, %d, %d, want %v", s, n, at, e, want)
		}
	}
}

// P1.2
func TestNumberText(t *testing.T) {
	for n, want := range map[int]string{0: "0", 1: "1", 9: "9", 10: "10", 100: "100", 65536: "65536", 4294967295: "4294967295"} {
		if s, e := text.NumberText(n); s != want || e != api.OK {
			t.Errorf("NumberText(%d) = %q, %d", n, s, e)
		}
	}
	for _, n := range []int{-1, -10, 4294967296, 1 << 40, math.MaxInt, math.MinInt} {
		if s, e := text.NumberText(n); s != "" || e != api.ErrLimit {
			t.Errorf("NumberText(%d) = %q, %d", n, s, e)
		}
	}
}

// P1.6
func TestNumberFollows(t *testing.T) {
	r := rand.New(rand.NewSource(16))
	numbers := []int{0, 1, 9, 10, 99, 100, 4294967294, 4294967295}
	for range 2000 {
		numbers = append(numbers, r.Intn(4294967296)>>r.Intn(32))
	}
	for _, n := range numbers {
		s, e := text.NumberText(n)
		if e != api.OK {
			t.Fatalf("NumberText(%d): %d", n, e)
		}
		if m, at, e := text.Number(s); m != n || at != 0 || e != api.OK {
			t.Fatalf("Number of NumberText(%d) = %d, %d, %d", n, m, at, e)
		}
	}
	for _, s := range odd {
		if n, _, e := text.Number(s); e == api.OK {
			if back, e := text.NumberText(n); e != api.OK || back != s {
				t.Errorf("NumberText of Number(%q) = %q, %d", s, back, e)
			}
		}
	}
}

// P1.3
func TestAtom(t *testing.T) {
	for b := range 256 {
		s := string([]byte{byte(b)})
		want := b >= 33 && b <= 126 && !strings.Contains("(){%*\"\\]", s)
		for _, s := range []string{s, "a" + s, s + "a", "a" + s + "~"} {
			if got := text.Atom(s); got != want {
				t.Errorf("Atom(%q) = %v", s, got)
			}
		}
	}
	for s, want := range map[string]bool{
		"": false, " ": false, "a b": false, "a}[": true, "a]": false, "ä": false, "aä": false, "a\ufffd": false,
		"\u0080": false, "!": true, "~": true, "INBOX": true, "a\xff": false, "\u0121": false, // its lowest byte alone would be a !
		"bob/INBOX": true, strings.Repeat("a", 5000): true, strings.Repeat("a", 5000) + ")": false,
	} {
		if got := text.Atom(s); got != want {
			t.Errorf("Atom(%.30q) = %v", s, got)
		}
	}
}

// P1.4, Quote
func TestQuote(t *testing.T) {
	for s, want := range map[string]string{
		"":                           `""`,
		"a":                          `"a"`,
		" ":                          `" "`,
		"ä":                          `"ä"`,
		`a"b`:                        `"a\"b"`,
		`a\b`:                        `"a\\b"`,
		`\"`:                         `"\\\""`,
		"'(){%*]":                    `"'(){%*]"`,
		"~\u0080\u0085€\U0010ffff":   "\"~\u0080\u0085€\U0010ffff\"",
		"\ufffd":                     "\"\ufffd\"", // a letter, as any other one
		"\ufffe\uffff\u2028":         "\"\ufffe\uffff\u2028\"",
		strings.Repeat("a", 1024):    `"` + strings.Repeat("a", 1024) + `"`,
		strings.Repeat("ä", 512):     `"` + strings.Repeat("ä", 512) + `"`,
		strings.Repeat("\"\\", 512):  `"` + strings.Repeat(`\"\\`, 512) + `"`,
		strings.Repeat("x", 8) + "€": `"` + strings.Repeat("x", 8) + `€"`,
	} {
		if q, at, e := text.Quote(s); q != want || at != 0 || e != api.OK {
			t.Errorf("Quote(%.30q) = %.30q, %d, %d", s, q, at, e)
		}
	}
}

// P1.4, Quote
func TestQuoteFaults(t *testing.T) {
	for s, want := range map[string]struct {
		at int
		e  api.Errno
	}{
		"\x00":                               {0, api.ErrForm},
		"\x1f":                               {0, api.ErrForm},
		"\x7f":                               {0, api.ErrForm},
		"a\tb\x00":                           {1, api.ErrForm},
		"ab\r\n":                             {2, api.ErrForm},
		"äö\x7f":                             {2, api.ErrForm}, // a place is counted in letters
		"\"\\\n":                             {2, api.ErrForm},
		"\xff":                               {0, api.ErrForm},
		"ä\xff":                              {1, api.ErrForm},
		"€€\xc3":                             {2, api.ErrForm},
		"a\ufffd\xff":                        {2, api.ErrForm},
		"\xc0\x80":                           {0, api.ErrForm},
		"a\xed\xa0\x80":                      {1, api.ErrForm},
		"a\xf4\x90\x80\x80":                  {1, api.ErrForm},
		strings.Repeat("ä", 511) + "\n\n":    {511, api.ErrForm},
		strings.Repeat("a", 1023) + "\n":     {1023, api.ErrForm},
		strings.Repeat("a", 1025):            {0, api.ErrLimit},
		strings.Repeat("ä", 513):             {0, api.ErrLimit},
		"\n" + strings.Repeat("a", 1024):     {0, api.ErrLimit}, // the limit is named ahead of the form
		"ab\xff" + strings.Repeat("a", 5000): {0, api.ErrLimit},
	} {
		if q, at, e := text.Quote(s); q != "" || at != want.at || e != want.e {
			t.Errorf("Quote(%.30q) = %.30q, %d, %d, want %v", s, q, at, e, want)
		}
	}
}

// P1.4, Unquote
func TestUnquote(t *testing.T) {
	for s, want := range map[string]struct {
		said string
		n    int
	}{
		`""`:                                     {"", 2},
		`"a"`:                                    {"a", 3},
		`"a\"b" c`:                               {`a"b`, 6},
		`"\\"`:                                   {`\`, 4},
		`"\\\""`:                                 {`\"`, 6},
		`"\\"\"`:                                 {`\`, 4},
		`""""`:                                   {"", 2},
		`"a""b"`:                                 {"a", 3},
		`" "`:                                    {" ", 3},
		`"ä€"x`:                                  {"ä€", 7}, // in bytes
		"\"\ufffd\u0080\"":                       {"\ufffd\u0080", 7},
		"\"a\"\xff\x00\n":                        {"a", 3}, // what stands behind plays no part
		`"` + strings.Repeat("a", 1024) + `"`:    {strings.Repeat("a", 1024), 1026},
		`"` + strings.Repeat(`\"`, 1024) + `"`:   {strings.Repeat(`"`, 1024), 2050},
		`"` + strings.Repeat("ä", 512) + `"ä`:    {strings.Repeat("ä", 512), 1026},
		`"` + strings.Repeat(`\\`, 1024) + `"\x`: {strings.Repeat(`\`, 1024), 2050},
	} {
		if said, n, e := text.Unquote(s); said != want.said || n != want.n || e != api.OK {
			t.Errorf("Unquote(%.30q) = %.30q, %d, %d", s, said, n, e)
		}
	}
}

// P1.4, Unquote
func TestUnquoteFaults(t *testing.T) {
	long := strings.Repeat("a", 1025)
	for s, want := range map[string]struct {
		at int
		e  api.Errno
	}{
		"":                                     {0, api.ErrShort},
		`"`:                                    {1, api.ErrShort},
		`"a`:                                   {2, api.ErrShort},
		`"ä€`:                                  {3, api.ErrShort}, // in letters
		`"\`:                                   {2, api.ErrShort},
		`"a\"`:                                 {4, api.ErrShort},
		`"ä\\`:                                 {4, api.ErrShort},
		`a`:                                    {0, api.ErrForm},
		` ""`:                                  {0, api.ErrForm},
		`\"a"`:                                 {0, api.ErrForm},
		`'a'`:                                  {0, api.ErrForm},
		"\xff":                                 {0, api.ErrForm},
		"ä\"":                                  {0, api.ErrForm},
		`"ä\x`:                                 {3, api.ErrForm},
		`"\a"`:                                 {2, api.ErrForm},
		`"\ä"`:                                 {2, api.ErrForm},
		"\"\\\xff\"":                           {2, api.ErrForm},
		"\"\\\n\"":                             {2, api.ErrForm},
		"\"ab\n\"":                             {3, api.ErrForm},
		"\"\x1f\"":                             {1, api.ErrForm},
		"\"\x7f\"":                             {1, api.ErrForm},
		"\"€\x00":                              {2, api.ErrForm},
		"\"ä\xff\"":                            {2, api.ErrForm},
		"\"\ufffd\xc3\"":                       {2, api.ErrForm},
		"\"\xed\xa0\x80\"":                     {1, api.ErrForm},
		`"` + long + `"`:                       {0, api.ErrLimit},
		`"` + long + "\"\n":                    {0, api.ErrLimit},
		`"` + strings.Repeat("ä", 513) + `"`:   {0, api.ErrLimit},
		`"` + strings.Repeat(`\"`, 1025) + `"`: {0, api.ErrLimit},
		`"` + long:                             {1026, api.ErrShort}, // too long or not: it has no end
		`"` + long + "\n":                      {1026, api.ErrForm},
		`"` + long + `\x`:                      {1027, api.ErrForm},
	} {
		if said, at, e := text.Unquote(s); said != "" || at != want.at || e != want.e {
			t.Errorf("Unquote(%.30q) = %.30q, %d, %d, want %v", s, said, at, e, want)
		}
	}
}

// P1.4: all that stands ahead of the place that is told goes on to a quoted text, and with the letter there it does not.
func TestUnquotePlace(t *testing.T) {
	for _, s := range append([]string{"\"ä\\x", "\"a\n", "b", "\"\\\"\xff", "\"€\"", "\"\\"}, odd...) {
		_, at, e := text.Unquote(s)
		if e != api.ErrForm {
			continue
		}
		ends := []int{}
		for i := 0; i < len(s); {
			_, n := utf8.DecodeRuneInString(s[i:])
			i += n
			ends = append(ends, i)
		}
		ends = append([]int{0}, ends...)
		if _, n, e := text.Unquote(s[:ends[at]]); e != api.ErrShort || n != at {
			t.Errorf("Unquote(%q) ahead of the fault at %d: %d, %d", s, at, n, e)
		}
		if _, n, e := text.Unquote(s[:ends[at+1]]); e != api.ErrForm || n != at {
			t.Errorf("Unquote(%q) up to the fault at %d: %d, %d", s, at, n, e)
		}
	}
}

// P1.7
func TestQuoteFollows(t *testing.T) {
	r := rand.New(rand.NewSource(17))
	texts := append([]string{strings.Repeat("\"\\", 512), strings.Repeat("€", 341), strings.Repeat("z", 1024)}, odd...)
	for range 500 {
		texts = append(texts, some(r, 40))
	}
	for _, s := range texts {
		q, _, e := text.Quote(s)
		if e != api.OK {
			continue
		}
		for _, behind := range []string{"", " ", "\"", "\\", "\\\"", "x", "\"x\"", "\xff", "\r\n", "ä", q} {
			if said, n, e := text.Unquote(q + behind); said != s || n != len(q) || e != api.OK {
				t.Errorf("Unquote of Quote(%.30q) and %.30q = %.30q, %d, %d", s, behind, said, n, e)
			}
		}
		for end := range len(q) { // it ends where it ends, and not ahead of that
			if said, _, e := text.Unquote(q[:end]); said != "" || e == api.OK || e == api.ErrLimit {
				t.Errorf("Unquote of %d bytes of Quote(%.30q) = %.30q, %d", end, s, said, e)
			}
		}
	}
}

// P1.5
func TestWord(t *testing.T) {
	for s, want := range map[string][2]string{
		"":                {"", ""},
		"a":               {"a", ""},
		"fetch 1  flags":  {"fetch", "1  flags"},
		" a b":            {"", "a b"},
		"a ":              {"a", ""},
		" ":               {"", ""},
		"  ":              {"", " "},
		"a  b":            {"a", " b"},
		"ä ö ü":           {"ä", "ö ü"},
		"\xff \xfe":       {"\xff", "\xfe"},
		"Mail FROM:<a@b>": {"Mail", "FROM:<a@b>"},
		"a\u00a0b":        {"a\u00a0b", ""}, // another letter, if it looks like a blank or not
		"\"a b\" c":       {"\"a", "b\" c"},
	} {
		if w, rest := text.Word(s); w != want[0] || rest != want[1] {
			t.Errorf("Word(%q) = %q, %q", s, w, rest)
		}
	}
}

// P1, P2, P6: each call ends, tells nothing beside an error, and tells the same again, whatever was asked in between.
func TestTextsOfAnyBytes(t *testing.T) {
	r := rand.New(rand.NewSource(1))
	texts := append([]string{strings.Repeat("\xff", 1<<20), strings.Repeat("\"\\", 1<<20), "\"" + strings.Repeat("\\\"", 1<<20)}, odd...)
	for range 2000 {
		b := make([]byte, r.Intn(12))
		r.Read(b)
		texts = append(texts, string(b), "\""+string(b)+"\"")
	}
	type told struct {
		lower, word, rest, said, quoted string
		n, at, behind, place            int
		number, unquote, quote          api.Errno
		atom                            bool
	}
	ask := func(s string) (x told) {
		x.lower, x.atom = text.Lower(s), text.Atom(s)
		x.word, x.rest = text.Word(s)
		x.n, x.at, x.number = text.Number(s)
		x.said, x.behind, x.unquote = text.Unquote(s)
		x.quoted, x.place, x.quote = text.Quote(s)
		return x
	}
	var first []told
	for _, s := range texts {
		x := ask(s)
		if x.number != api.OK && x.n != 0 || x.unquote != api.OK && x.said != "" || x.quote != api.OK && x.quoted != "" {
			t.Errorf("of %.30q something is told beside an error", s)
		}
		first = append(first, x)
	}
	for i := len(texts) - 1; i >= 0; i-- {
		if ask(texts[i]) != first[i] {
			t.Errorf("of %.30q another thing is told the second time", texts[i])
		}
	}
}
