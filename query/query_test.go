package query_test

import (
	"math"
	"slices"
	"strings"
	"testing"

	"pigeonhole/api"
	"pigeonhole/query"
)

// top is the greatest number.
const top = 1<<32 - 1

// far are numbers that are far out of each range.
var far = []int{-1, -2, top + 1, 1 << 33, math.MaxInt, math.MaxInt - 1, math.MinInt}

// Keys of which little is to be told.
var (
	all = api.Key{Op: api.KeyAll}
	not = api.Key{Op: api.KeyNot}
	or  = api.Key{Op: api.KeyOr}
	and = api.Key{Op: api.KeyAnd}
)

// rep is a text n times.
func rep(s string, n int) string { return strings.Repeat(s, n) }

// has, lacks, size, numbers, uids, dated, field and said are leaves.
func has(f uint8) api.Key   { return api.Key{Op: api.KeyHas, Flags: f} }
func lacks(f uint8) api.Key { return api.Key{Op: api.KeyLacks, Flags: f} }
func size(op api.KeyOp, n int) api.Key {
	return api.Key{Op: op, N: n}
}
func numbers(s string) api.Key { return api.Key{Op: api.KeyNumbers, Set: s} }
func uids(s string) api.Key    { return api.Key{Op: api.KeyUIDs, Set: s} }
func dated(op api.KeyOp, year, month, day int) api.Key {
	return api.Key{Op: op, Day: api.Day{Year: year, Month: month, Day: day}}
}
func field(name, s string) api.Key        { return api.Key{Op: api.KeyField, Name: name, Text: s} }
func said(op api.KeyOp, s string) api.Key { return api.Key{Op: op, Text: s} }

// of is a question.
func of(l ...api.Key) []api.Key { return l }

// some is keys n times.
func some(n int, l ...api.Key) []api.Key { return slices.Repeat(l, n) }

// leaves are leaves that are right, of each Op.
var leaves = of(
	all, has(1), has(2), has(4), has(8), has(16), lacks(1), lacks(16), size(api.KeyLarger, 0), size(api.KeyLarger, top), size(api.KeySmaller, 5), numbers("1"), numbers("*"), numbers("5:3,*,7:*"), numbers(rep("1,", 31)+"4294967295"), uids("1:*"),
	dated(api.KeyBefore, 1970, 1, 1), dated(api.KeyOn, 2000, 2, 29), dated(api.KeySince, 1, 1, 1), dated(api.KeySince, 9999, 12, 31), field("from", "bob"), field("From", ""), field("X-!#$&'+,-./0;<=>?@~[", "ä"), field(rep("n", 24), rep("\"", 1024)), said(api.KeyBody, ""), said(api.KeyBody, `"\ ( )`), said(api.KeyText, rep("t", 1024)),
)

// wrong are leaves, and others, that are not right.
func wrong() []api.Key {
	l := of(
		has(0), has(3), has(24), has(31), has(32), has(64), has(128), has(255), lacks(0), lacks(6), lacks(32), lacks(33), lacks(192),
		numbers(""), numbers("0"), numbers("1,"), numbers("1:"), numbers("a"), numbers("1 "), numbers("4294967296"), numbers("1:2:3"), numbers("01"), numbers(rep("1,", 32)+"1"), uids(""), uids("1,,2"), uids("**"), uids("\xff"),
		dated(api.KeyBefore, 0, 0, 0), dated(api.KeyBefore, 1900, 2, 29), dated(api.KeyOn, 2000, 13, 1), dated(api.KeyOn, 2000, 0, 1), dated(api.KeyOn, 0, 1, 1), dated(api.KeySince, 10000, 1, 1), dated(api.KeySince, 2000, 4, 31), dated(api.KeySince, math.MaxInt, math.MinInt, math.MaxInt),
		field("", "x"), field("a:b", "x"), field("a b", "x"), field("a\"", "x"), field("a]", "x"), field("a%", "x"), field("a*", "x"), field("a(", "x"), field("a)", "x"), field("a{", "x"), field("a\\", "x"), field(rep("n", 25), "x"), field("ä", "x"), field("\x7f", "x"), field("a\xff", "x"),
		field("a", "\n"), field("a", "\xff"), field("a", rep("x", 1025)), said(api.KeyBody, "\x00"), said(api.KeyBody, "\t"), said(api.KeyText, "\x7f"), said(api.KeyText, "a\xc3"), said(api.KeyText, rep("x", 1025)),
	)
	for _, n := range far {
		l = append(l, size(api.KeyLarger, n), size(api.KeySmaller, n))
	}
	// What an Op does not name is zero.
	for _, k := range append(slices.Clone(leaves), not, or, and) {
		for _, with := range []func(*api.Key){
			func(k *api.Key) { k.Flags = 1 }, func(k *api.Key) { k.N = 1 }, func(k *api.Key) { k.Set = "1" }, func(k *api.Key) { k.Day.Day = 1 }, func(k *api.Key) { k.Day = api.Day{Year: 2000, Month: 1, Day: 1} },
			func(k *api.Key) { k.Name = "a" }, func(k *api.Key) { k.Text = "a" },
		} {
			x := k
			with(&x)
			if !named(k, x) {
				l = append(l, x)
			}
		}
	}
	return l
}

// named: do two keys of one Op differ in what this names alone?
func named(k, x api.Key) bool {
	for _, set := range []struct {
		ops   []api.KeyOp
		clear func(*api.Key)
	}{
		{[]api.KeyOp{api.KeyHas, api.KeyLacks}, func(k *api.Key) { k.Flags = 0 }},
		{[]api.KeyOp{api.KeyLarger, api.KeySmaller}, func(k *api.Key) { k.N = 0 }},
		{[]api.KeyOp{api.KeyNumbers, api.KeyUIDs}, func(k *api.Key) { k.Set = "" }},
		{[]api.KeyOp{api.KeyBefore, api.KeyOn, api.KeySince}, func(k *api.Key) { k.Day = api.Day{} }},
		{[]api.KeyOp{api.KeyField}, func(k *api.Key) { k.Name = "" }},
		{[]api.KeyOp{api.KeyField, api.KeyBody, api.KeyText}, func(k *api.Key) { k.Text = "" }},
	} {
		if slices.Contains(set.ops, k.Op) {
			set.clear(&k)
			set.clear(&x)
		}
	}
	return k == x
}

// checks holds what all calls tell of a question against what is wanted, beside which they tell nothing.
func checks(t *testing.T, l []api.Key, want api.Errno) {
	t.Helper()
	kept := slices.Clone(l)
	if e := query.Check(l); e != want {
		t.Errorf("Check(%v) = %d, want %d", l, e, want)
	}
	if s, e := query.Print(l); e != want || e != api.OK && s != "" {
		t.Errorf("Print(%v) = %.80q, %d, want %d", l, s, e, want)
	}
	if ok, e := query.Eval(l, api.Sight{}); e != want || e != api.OK && ok {
		t.Errorf("Eval(%v) = %v, %d, want %d", l, ok, e, want)
	}
	if picked, e := query.Pick(l, []int{1}, api.Box{Valid: 1, Next: 2, Letters: []api.Letter{{UID: 1}}}); e != want || e != api.OK && len(picked) != 0 {
		t.Errorf("Pick(%v) = %v, %d, want %d", l, picked, e, want)
	}
	if !slices.Equal(l, kept) {
		t.Errorf("%v was changed", kept)
	}
}

// P19.1: which keys are right.
func TestCheckKeys(t *testing.T) {
	for _, k := range leaves {
		checks(t, of(k), api.OK)
	}
	l := wrong()
	if len(l) < 200 {
		t.Errorf("only %d are wrong", len(l))
	}
	for _, k := range l {
		checks(t, of(k), api.ErrForm)
		checks(t, of(all, all, k), api.ErrForm)
	}
	for _, op := range append([]int{0, 17, 18, 100}, far...) {
		checks(t, of(api.Key{Op: api.KeyOp(op)}), api.ErrType)
		checks(t, of(all, api.Key{Op: api.KeyOp(op)}), api.ErrType)
		checks(t, of(api.Key{Op: api.KeyOp(op), N: -1, Flags: 255, Set: "x", Text: "\xff"}), api.ErrType) // ahead of the form
	}
}

// P19.1: truths that are missing, or too many.
func TestCheckTruths(t *testing.T) {
	for _, l := range [][]api.Key{
		of(all, not), of(all, all, and), of(all, all, or), of(all, all, all, and, or), of(all, all, and, all, or), of(all, not, all, not, or, not), of(all, not, not, not), append(some(8, all), some(7, and)...), append(some(8, all), some(7, or)...), append(of(all), some(47, not)...), append(of(all), some(23, all, and)...),
	} {
		checks(t, l, api.OK)
	}
	for _, l := range [][]api.Key{
		nil, {}, of(not), of(and), of(or), of(all, and), of(all, or), of(not, all), of(and, all, all), of(all, and, all), of(all, not, and), of(all, all, and, or), of(all, all, or, and, all), // it is missing
		of(all, all), of(all, all, not), of(all, all, all, and), some(8, all), append(some(8, all), some(6, or)...), // more than one stands
	} {
		checks(t, l, api.ErrArg)
	}
	for _, l := range [][]api.Key{
		some(9, all), some(48, all), append(some(9, all), some(8, and)...), append(some(8, all), all, and, and), append(some(8, all), and, all, all), append(of(all, all, and), some(8, all)...), append(append(some(8, all), some(7, and)...), some(8, all)...), // they stand
		some(49, all), append(of(all), some(48, not)...), append(append(of(all), some(23, all, and)...), not, not), some(1000, all), some(100000, not), // keys
	} {
		checks(t, l, api.ErrLimit)
	}
}

// P19.1: which error goes ahead, and from the left.
func TestCheckOrder(t *testing.T) {
	none, bad := api.Key{}, has(3)
	checks(t, some(49, none), api.ErrLimit)
	checks(t, some(49, bad), api.ErrLimit)
	checks(t, some(48, none), api.ErrType)
	checks(t, of(none, bad, and), api.ErrType)
	checks(t, of(bad, none, and), api.ErrForm)
	checks(t, of(and, none, bad), api.ErrArg)
	checks(t, of(and, bad), api.ErrArg)
	checks(t, of(api.Key{Op: api.KeyAnd, N: 1}), api.ErrForm)
	checks(t, append(some(9, all), none), api.ErrLimit)
	checks(t, append(some(8, all), none), api.ErrType)
	checks(t, append(some(8, all), bad), api.ErrForm)
	checks(t, append(some(9, all), bad), api.ErrLimit)
	checks(t, append(some(8, all), some(9, and)...), api.ErrArg)
	checks(t, of(all, all, none), api.ErrType)
	checks(t, of(all, all, bad), api.ErrForm)
	// Of one key, that a truth is missing counts ahead of how many stand, which then are few.
	checks(t, append(of(not), some(48, all)...), api.ErrLimit)
	checks(t, append(of(not), some(47, all)...), api.ErrArg)
}
