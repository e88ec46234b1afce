package box

import (
	"cmp"
	"slices"

	"pigeonhole/api"
	"pigeonhole/text"
)

// How far a set is read.
const (
	ahead  = iota // a number is to begin
	digits        // a number's digits go on, or it has ended
	star          // a number has ended
)

// reader is what is known of a set as far as it is read.
type reader struct {
	most   int
	far    int
	from   int    // where the number begins that is read
	part   [2]int // the part that is read, as far as it is
	second bool   // is its second number read?
	parts  [][2]int
	starry bool // has one of them a *?
}

// Set is the numbers of a text, as ranges.
func Set(s string, most int) ([][2]int, int, api.Errno) {
	if most < 0 || most > api.MaxNumber {
		return nil, 0, api.ErrArg
	}
	r := reader{most: most}
	for i := range len(s) {
		// All ahead of a fault are letters of one byte, so that its byte is its place.
		if !r.step(s, i) {
			return nil, i, api.ErrForm
		}
	}
	if r.far == ahead {
		return nil, len(s), api.ErrShort
	}
	r.end()
	switch {
	case len(r.parts) > api.MaxSets:
		return nil, 0, api.ErrLimit
	case r.starry && most == 0:
		return nil, 0, api.ErrArg
	}
	return joined(r.parts), 0, api.OK
}

// In: does a number lie in a range?
func In(l [][2]int, n int) bool {
	return slices.ContainsFunc(l, func(r [2]int) bool { return n >= r[0] && n <= r[1] })
}

// step reads on by the letter of s at i; false, if no set goes on with it.
func (r *reader) step(s string, i int) bool {
	switch r.far {
	case ahead:
		r.from = i
		if s[i] == '*' {
			r.far, r.starry = star, true
			r.lay(r.most)
			return true
		}
		r.far = digits
		return r.digit(s, i)
	case digits:
		return r.digit(s, i) || r.between(s[i])
	}
	return r.between(s[i])
}

// digit reads the letter of s at i as one more digit of a number.
func (r *reader) digit(s string, i int) bool {
	n, _, e := text.Number(s[r.from : i+1])
	if e != api.OK || !isNumber(n) {
		return false
	}
	r.lay(n)
	return true
}

// between reads a sign that stands between two numbers.
func (r *reader) between(sign byte) bool {
	switch {
	case sign == ',':
		r.end()
	case sign == ':' && !r.second:
		r.second = true
	default:
		return false
	}
	r.far = ahead
	return true
}

// lay is told the number that is read, as far as it is.
func (r *reader) lay(n int) {
	r.part[1] = n
	if !r.second {
		r.part[0] = n
	}
}

// end lays the part that was read to the others.
func (r *reader) end() {
	a, b := r.part[0], r.part[1]
	r.parts = append(r.parts, [2]int{min(a, b), max(a, b)})
	r.second = false
}

// joined are ranges, rising, of which those that touch are one.
func joined(parts [][2]int) [][2]int {
	slices.SortFunc(parts, func(a, b [2]int) int { return cmp.Compare(a[0], b[0]) })
	l := parts[:1:1]
	for _, p := range parts[1:] {
		last := &l[len(l)-1]
		if p[0] > last[1]+1 {
			l = append(l, p)
			continue
		}
		last[1] = max(last[1], p[1])
	}
	return l
}
