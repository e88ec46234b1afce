package view_test

import (
	"math"
	"reflect"
	"slices"
	"strings"
	"testing"

	"pigeonhole/api"
	"pigeonhole/view"
)

// top is the greatest number.
const top = 1<<32 - 1

// far are numbers that are far out of each range.
var far = []int{-1, -2, top + 1, 1 << 33, math.MaxInt, math.MaxInt - 1, math.MinInt}

// rep is a text n times.
func rep(s string, n int) string { return strings.Repeat(s, n) }

// see, body, part and fields are items; of is a list of them.
func see(what api.See) api.Item   { return api.Item{See: what} }
func body(path string) api.Item   { return api.Item{See: api.SeeBody, Path: path} }
func fields(l ...string) api.Item { return api.Item{See: api.SeeFields, Names: l} }
func part(path string, from, size int) api.Item {
	return api.Item{See: api.SeeBody, Path: path, Part: true, From: from, Size: size}
}
func of(l ...api.Item) []api.Item { return l }

// alike: are two lists of items the same, an empty list being as good as none?
func alike(a, b []api.Item) bool {
	return slices.EqualFunc(a, b, func(x, y api.Item) bool {
		same := slices.Equal(x.Names, y.Names)
		x.Names, y.Names = nil, nil
		return same && reflect.DeepEqual(x, y)
	})
}

// copied is items in memory of their own.
func copied(l []api.Item) []api.Item {
	l = slices.Clone(l)
	for i := range l {
		l[i].Names = slices.Clone(l[i].Names)
	}
	return l
}

// words are the words of flags, in order.
var words = []string{`\Answered`, `\Flagged`, `\Deleted`, `\Seen`, `\Draft`}

// P20.1, P20.5: all flags there can be.
func TestFlags(t *testing.T) {
	bits := []uint8{2, 4, 8, 1, 16}
	for f := range 256 {
		var want []string
		for i, bit := range bits {
			if uint8(f)&bit != 0 {
				want = append(want, words[i])
			}
		}
		got := view.Flags(uint8(f))
		if got != "("+strings.Join(want, " ")+")" {
			t.Errorf("Flags(%d) = %q, want %q", f, got, want)
		}
		if flags, ok := view.ParseFlags(strings.Fields(strings.Trim(got, "()"))); flags != uint8(f)%32 || !ok {
			t.Errorf("ParseFlags(%q) = %d, %v", got, flags, ok)
		}
	}
	if got := view.Flags(31); got != `(\Answered \Flagged \Deleted \Seen \Draft)` {
		t.Errorf("Flags(31) = %q", got)
	}
}

// P20.1, ParseFlags
func TestParseFlags(t *testing.T) {
	for want, l := range map[uint8][]string{
		0: {}, 1: {`\Seen`}, 2: {`\ANSWERED`}, 4: {`\flagged`}, 8: {`\dELETED`}, 16: {`\Draft`}, 17: {`\draft`, `\SEEN`}, 9: {`\Seen`, `\Deleted`, `\seen`, `\SEEN`}, 31: {`\Seen`, `\Draft`, `\Deleted`, `\Flagged`, `\Answered`}, 5: slices.Repeat([]string{`\Seen`, `\Flagged`}, 100000),
	} {
		if flags, ok := view.ParseFlags(l); flags != want || !ok {
			t.Errorf("ParseFlags(%.60q) = %d, %v, want %d", l, flags, ok, want)
		}
	}
	if flags, ok := view.ParseFlags(nil); flags != 0 || !ok {
		t.Errorf("ParseFlags(nil) = %d, %v", flags, ok)
	}
	for _, s := range []string{"", `\`, "Seen", `\\Seen`, `\Seen `, ` \Seen`, `\Seenx`, `\See`, `\Recent`, `\*`, `/Seen`, `\Seen\Draft`, `\Seen \Draft`, `(\Seen)`, `\ſeen`, "\\Seen\x00", "\xff", rep(`\Seen`, 1<<18)} {
		for _, l := range [][]string{{s}, {`\Seen`, s}, {s, `\Seen`}, {`\Draft`, s, s, `\Seen`}} {
			if flags, ok := view.ParseFlags(l); flags != 0 || ok {
				t.Errorf("ParseFlags(%.60q) = %d, %v", l, flags, ok)
			}
		}
	}
}

// rights are items that are right, of each See.
var rights = of(
	see(api.SeeUID), see(api.SeeFlags), see(api.SeeSize), see(api.SeeEnvelope), see(api.SeeStructure),
	body(""), body("1"), body("1.2.3"), body("TEXT"), body("HEADER"), body("2.TEXT"), body("1.HEADER"), body("4294967295.MIME"), body("1"+rep(".1", 1000)), part("", 0, 1), part("1.TEXT", 0, 20), part("HEADER", top, top), part("1.MIME", 5, 1),
	fields("a"), fields("Subject", "TO", "to", "X-!#$&'+,-./0;<=>?@~["), fields(rep("n", 24)), fields(slices.Repeat([]string{"From"}, 16)...), fields(")"[1:]+"a<0.5>"),
)

// wrong are items that are not right.
func wrong() []api.Item {
	l := of(
		body("0"), body("1."), body(".1"), body("1..2"), body("x"), body("MIME"), body("text"), body("Text"), body("1.tEXT"), body("header"), body("1.mime"), body("TEXT.1"), body("4294967296"), body("01"), body(" "), body("1 "), body("HEADER.FIELDS"), body("HEADER.FIELDS (A)"), body("]"), body("ſ"), body("MıME"), body("1.MıME"), body("\xff"),
		part("1", 0, 0), part("x", 0, 1), part("text", 0, 1), fields(), fields(slices.Repeat([]string{"From"}, 17)...), fields(slices.Repeat([]string{"From"}, 100000)...),
		api.Item{See: api.SeeBody, From: 1}, api.Item{See: api.SeeBody, Size: 1}, api.Item{See: api.SeeBody, From: 1, Size: 1}, api.Item{See: api.SeeBody, Path: "1", Names: []string{"a"}}, api.Item{See: api.SeeBody, Names: []string{""}},
	)
	for _, s := range []string{"", "a:", "a b", "a\"", "a]", "a%", "a*", "a(", "a)", "a{", "a\\", rep("n", 25), "ä", "\x7f", "a\xff", " a", "a\t", rep("n", 1<<20)} {
		l = append(l, fields(s), fields("To", s), fields(s, "To"))
	}
	for _, n := range far {
		l = append(l, part("1", n, 1), part("1", 0, n), part("1", n, n), api.Item{See: api.SeeBody, From: n}, api.Item{See: api.SeeBody, Size: n})
	}
	// What a See does not name is zero.
	for _, x := range of(see(api.SeeUID), see(api.SeeFlags), see(api.SeeSize), see(api.SeeEnvelope), see(api.SeeStructure), fields("a")) {
		for _, with := range []func(*api.Item){
			func(x *api.Item) { x.Path = "1" }, func(x *api.Item) { x.Path = "TEXT" }, func(x *api.Item) { x.Part = true }, func(x *api.Item) { x.From = 1 }, func(x *api.Item) { x.Size = 1 }, func(x *api.Item) { x.Part, x.Size = true, 1 }, func(x *api.Item) { x.Names = append([]string{""}, x.Names...) },
		} {
			y := x
			with(&y)
			l = append(l, y)
		}
		if x.See != api.SeeFields {
			x.Names = []string{"a"}
			l = append(l, x)
		}
	}
	return l
}

// checks holds what all calls tell of items against what is wanted, beside which they tell nothing.
func checks(t *testing.T, l []api.Item, want api.Errno) {
	t.Helper()
	kept := copied(l)
	if e := view.Check(l); e != want {
		t.Errorf("Check(%.300q) = %d, want %d", told(l), e, want)
	}
	if s, e := view.Print(l); e != want || (s == "") != (e != api.OK) {
		t.Errorf("Print(%.300q) = %.80q, %d, want %d", told(l), s, e, want)
	}
	for _, uid := range []bool{false, true} {
		if s, e := view.Fetch(1, api.Letter{}, l, uid); e != want || (s == "") != (e != api.OK) {
			t.Errorf("Fetch(%.300q) = %.80q, %d, want %d", told(l), s, e, want)
		}
		if s, e := view.Fetch(-1, api.Letter{}, l, uid); want != api.OK && (e != want || s != "") {
			t.Errorf("Fetch(-1, %.300q) = %.80q, %d, want %d", told(l), s, e, want)
		}
	}
	if !alike(l, kept) {
		t.Errorf("%.300q was changed", told(kept))
	}
}

// told is the first of some items, so that it can be told which they were.
func told(l []api.Item) []string {
	var s []string
	for _, x := range l[:min(len(l), 3)] {
		s = append(s, x.Path+"|"+strings.Join(x.Names[:min(len(x.Names), 3)], "|"))
	}
	return s
}

// P20.2, Check
func TestCheck(t *testing.T) {
	for _, x := range rights {
		checks(t, of(x), api.OK)
		checks(t, slices.Repeat(of(x), 12), api.OK)
		checks(t, slices.Repeat(of(x), 13), api.ErrLimit)
	}
	x := see(api.SeeUID)
	x.Names = []string{} // as good as none
	checks(t, of(x), api.OK)
	for _, x := range wrong() {
		checks(t, of(x), api.ErrForm)
		checks(t, of(rights[0], rights[5], x), api.ErrForm)
	}
	for _, n := range append([]int{0, 8, 9, 100}, far...) {
		checks(t, of(see(api.See(n))), api.ErrType)
		checks(t, of(see(api.SeeUID), see(api.See(n))), api.ErrType)
		checks(t, of(api.Item{See: api.See(n), Path: "x", From: -1, Names: []string{""}}), api.ErrType)
	}
	checks(t, nil, api.ErrArg)
	checks(t, of(), api.ErrArg)
	checks(t, rights[:12], api.OK)
	checks(t, make([]api.Item, 13), api.ErrLimit)
	checks(t, make([]api.Item, 12), api.ErrType)
	checks(t, make([]api.Item, 1<<16), api.ErrLimit)
	// The first one that has an error counts.
	checks(t, of(see(api.SeeUID), body("x"), see(0)), api.ErrForm)
	checks(t, of(see(api.SeeUID), see(0), body("x")), api.ErrType)
	checks(t, append(slices.Repeat(of(see(api.SeeUID)), 12), body("x")), api.ErrLimit)
}
