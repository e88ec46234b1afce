package bag_test

import (
	"bytes"
	"math"
	"math/rand"
	"reflect"
	"slices"
	"strconv"
	"strings"
	"testing"

	"pigeonhole/api"
	"pigeonhole/bag"
)

// far are numbers that are never a place, or a node.
var far = []int{-1, -2, 48, 1 << 16, 1 << 32, math.MaxInt, math.MinInt}

// most is how many bytes a message may have.
const most = 2006

// fresh is an empty bag.
func fresh(t *testing.T, most int) *bag.Bag {
	t.Helper()
	b, e := bag.New(most)
	if b == nil || e != api.OK {
		t.Fatalf("New(%d) = %v, %d", most, b, e)
	}
	return b
}

// under is a message.
func under(from, to int, held string) api.Under {
	return api.Under{From: from, To: to, Bytes: []byte(held)}
}

// add has a message be added.
func add(t *testing.T, b *bag.Bag, u api.Under, want api.Errno) {
	t.Helper()
	if e := b.Add(u); e != want {
		t.Errorf("Add of %d bytes from %d to %d = %d, want %d", len(u.Bytes), u.From, u.To, e, want)
	}
}

// filled is a bag of such messages, each for the node 0.
func filled(t *testing.T, most int, l ...string) *bag.Bag {
	t.Helper()
	b := fresh(t, most)
	for _, s := range l {
		add(t, b, under(1, 0, s), api.OK)
	}
	return b
}

// take holds a message that is taken against the one that is wanted.
func take(t *testing.T, b *bag.Bag, i int, keep bool, want api.Under) {
	t.Helper()
	if u, e := b.Take(i, keep); e != api.OK || !same(u, want) {
		t.Errorf("Take(%d, %v) = %.60v, %d, want %.60v", i, keep, u, e, want)
	}
}

// first holds the place of the first message for a node against the one that is wanted; below 0: there is none.
func first(t *testing.T, b *bag.Bag, to, want int) {
	t.Helper()
	if i, there := b.First(to); there != (want >= 0) || i != max(want, 0) {
		t.Errorf("First(%d) = %d, %v, want %d", to, i, there, want)
	}
}

// stands holds a bag's messages, by their bytes, and how many were lost, against what is wanted.
func stands(t *testing.T, b *bag.Bag, lost int, want ...string) {
	t.Helper()
	var got []string
	for _, u := range held(t, b) {
		got = append(got, string(u.Bytes))
	}
	if !slices.Equal(got, want) || b.Lost() != lost {
		t.Errorf("in it are %.20q, and %d were lost; want %.20q, %d", got, b.Lost(), want, lost)
	}
}

// held is all that is in a bag.
func held(t *testing.T, b *bag.Bag) []api.Under {
	t.Helper()
	var l []api.Under
	for i := range b.Len() {
		u, e := b.Take(i, true)
		if e != api.OK {
			t.Fatalf("Take(%d, true) of %d = %d", i, b.Len(), e)
		}
		l = append(l, u)
	}
	return l
}

// same: are two messages alike?
func same(a, b api.Under) bool {
	return a.From == b.From && a.To == b.To && bytes.Equal(a.Bytes, b.Bytes)
}

// P14.1, New
func TestNew(t *testing.T) {
	for _, n := range []int{1, 2, 47, 48} {
		b := fresh(t, n)
		stands(t, b, 0)
		for _, i := range append([]int{0, 1, n}, far...) {
			first(t, b, i, -1)
			if u, e := b.Take(i, i%2 == 0); !same(u, api.Under{}) || e != api.ErrArg {
				t.Errorf("Take(%d) of an empty bag = %v, %d", i, u, e)
			}
			if e := b.Lose(i); e != api.ErrArg {
				t.Errorf("Lose(%d) of an empty bag = %d", i, e)
			}
		}
		stands(t, b, 0)
	}
	for _, n := range []int{0, -1, 49, 50, 1 << 16, 1<<32 + 1, math.MaxInt, math.MinInt} {
		if b, e := bag.New(n); b != nil || e != api.ErrArg {
			t.Errorf("New(%d) = %v, %d", n, b, e)
		}
	}
}

// P14.1, Example 1
func TestExample(t *testing.T) {
	b := fresh(t, 48)
	x, y := under(0, 1, "x"), under(1, 0, "y")
	add(t, b, x, api.OK)
	add(t, b, y, api.OK)
	take(t, b, 0, true, x)
	take(t, b, 1, false, y)
	stands(t, b, 0, "x")
}

// P14.1, Add: the edges of what is right, and what is none.
func TestAdd(t *testing.T) {
	right := []api.Under{
		under(0, 0, "\x00"), under(7, 7, strings.Repeat("x", most)), under(0, 7, "a"), under(7, 0, "a"), under(3, 3, strings.Repeat("\xff", most-1)),
	}
	b := fresh(t, 48)
	for i, u := range right {
		add(t, b, u, api.OK)
		take(t, b, i, true, u)
	}
	wrong := []api.Under{
		{}, under(0, 0, ""), {Bytes: []byte{}}, under(0, 0, strings.Repeat("x", most+1)), under(0, 0, strings.Repeat("x", 1<<16)),
		under(8, 0, "x"), under(0, 8, "x"), under(9, 9, "x"), under(8, 8, ""),
	}
	for _, n := range far {
		wrong = append(wrong, under(n, 0, "x"), under(0, n, "x"))
	}
	for _, u := range wrong {
		add(t, b, u, api.ErrArg)
	}
	if l := held(t, b); !slices.EqualFunc(l, right, same) || b.Lost() != 0 {
		t.Error("what was not added changed the bag")
	}
	// What is wrong with a message goes ahead of that the bag is full: it was never under way, and is not lost.
	b = filled(t, 1, "x")
	for _, u := range wrong {
		add(t, b, u, api.ErrArg)
	}
	stands(t, b, 0, "x")
}

// P14.1, P14.3: a bag that is full.
func TestFull(t *testing.T) {
	for _, n := range []int{1, 2, 3, 47, 48} {
		b, want := fresh(t, n), []string{}
		for i := range n {
			want = append(want, strconv.Itoa(i))
			add(t, b, under(i%8, 7-i%8, want[i]), api.OK)
		}
		for i := range 5 {
			stands(t, b, i, want...)
			add(t, b, under(0, 0, "lost"), api.ErrFull)
		}
		stands(t, b, 5, want...)
		// A copy makes no room; what is taken, or lost, does.
		take(t, b, 0, true, under(0, 7, "0"))
		add(t, b, under(0, 0, "lost"), api.ErrFull)
		take(t, b, 0, false, under(0, 7, "0"))
		add(t, b, under(0, 0, "more"), api.OK)
		add(t, b, under(0, 0, "lost"), api.ErrFull)
		stands(t, b, 7, append(slices.Clone(want[1:]), "more")...)
		if e := b.Lose(n - 1); e != api.OK {
			t.Errorf("Lose = %d", e)
		}
		stands(t, b, 8, want[1:]...)
		add(t, b, under(0, 0, "again"), api.OK)
		stands(t, b, 8, append(slices.Clone(want[1:]), "again")...)
	}
}

// P14.1, Take: which one is taken, and that the others stay in their order.
func TestTake(t *testing.T) {
	l := []string{"a", "b", "c", "d"}
	for i, s := range l {
		b := filled(t, 48, l...)
		for range 3 {
			take(t, b, i, true, under(1, 0, s))
			stands(t, b, 0, l...)
		}
		take(t, b, i, false, under(1, 0, s))
		stands(t, b, 0, slices.Delete(slices.Clone(l), i, i+1)...)
	}
	b := filled(t, 48, l...)
	for _, i := range append([]int{4, 5, 47}, far...) {
		for _, keep := range []bool{true, false} {
			if u, e := b.Take(i, keep); !same(u, api.Under{}) || len(u.Bytes) != 0 || e != api.ErrArg {
				t.Errorf("Take(%d, %v) = %v, %d", i, keep, u, e)
			}
		}
	}
	stands(t, b, 0, l...)
	for _, s := range l {
		take(t, b, 0, false, under(1, 0, s))
	}
	if _, e := b.Take(0, false); e != api.ErrArg || b.Len() != 0 || b.Lost() != 0 {
		t.Error("something was taken twice", e)
	}
}

// P14.1, Lose, Lost
func TestLose(t *testing.T) {
	l := []string{"a", "b", "c", "d"}
	for i := range l {
		b := filled(t, 4, l...)
		if e := b.Lose(i); e != api.OK {
			t.Errorf("Lose(%d) = %d", i, e)
		}
		stands(t, b, 1, slices.Delete(slices.Clone(l), i, i+1)...)
	}
	b := filled(t, 48, l...)
	for _, i := range append([]int{4, 5, 47}, far...) {
		if e := b.Lose(i); e != api.ErrArg {
			t.Errorf("Lose(%d) = %d", i, e)
		}
	}
	stands(t, b, 0, l...)
	for i := range l {
		if e := b.Lose(len(l) - 1 - i); e != api.OK {
			t.Errorf("Lose = %d", e)
		}
		stands(t, b, i+1, l[:len(l)-1-i]...)
	}
	if e := b.Lose(0); e != api.ErrArg {
		t.Errorf("Lose of an empty bag = %d", e)
	}
	stands(t, b, 4)
}

// P14.1, First: the first one in the bag, and by whom it is to be had, not whose it is.
func TestFirst(t *testing.T) {
	b := fresh(t, 48)
	for i, to := range []int{3, 0, 3, 7, 0} {
		add(t, b, under(5, to, strconv.Itoa(i)), api.OK)
	}
	for to, want := range []int{1, -1, -1, 0, -1, -1, -1, 3} {
		first(t, b, to, want)
	}
	for _, to := range append([]int{8, 1<<32 + 3, 1<<8 + 3}, far...) {
		first(t, b, to, -1)
	}
	take(t, b, 0, false, under(5, 3, "0"))
	first(t, b, 3, 1)
	first(t, b, 0, 0)
	b.Lose(1)
	first(t, b, 3, -1)
	first(t, b, 7, 1)
	add(t, b, under(5, 3, "5"), api.OK)
	first(t, b, 3, 3)
}

// P14.1, Fork, and P4: it is alike, and what becomes of the one changes nothing of the other one.
func TestFork(t *testing.T) {
	b := filled(t, 3, "a", "b")
	b.Lose(0)
	add(t, b, under(1, 2, "c"), api.OK)
	f := b.Fork()
	if f == nil || f == b {
		t.Fatal("a fork is another one")
	}
	stands(t, f, 1, "b", "c")
	first(t, f, 2, 1)
	add(t, f, under(7, 7, "d"), api.OK)
	add(t, f, under(7, 7, "e"), api.ErrFull) // it has as much room
	stands(t, f, 2, "b", "c", "d")
	stands(t, b, 1, "b", "c")
	add(t, b, under(6, 6, "g"), api.OK)
	stands(t, f, 2, "b", "c", "d")
	take(t, b, 0, false, under(1, 0, "b"))
	stands(t, f, 2, "b", "c", "d")
	if e := f.Lose(1); e != api.OK {
		t.Errorf("Lose = %d", e)
	}
	stands(t, f, 3, "b", "d")
	stands(t, b, 1, "c", "g")
	add(t, b, under(6, 6, "h"), api.OK)
	add(t, b, under(6, 6, "i"), api.ErrFull)
	stands(t, f, 3, "b", "d")
	stands(t, f.Fork().Fork(), 3, "b", "d")
	// One of an empty bag.
	g := fresh(t, 1).Fork()
	stands(t, g, 0)
	add(t, g, under(0, 0, "x"), api.OK)
	add(t, g, under(0, 0, "y"), api.ErrFull)
	stands(t, g, 1, "x")
}

// P3: what is handed in stays as it is, and is not kept; what is answered is new memory.
func TestMemory(t *testing.T) {
	in := append(make([]byte, 0, 16), "hello spare"...)
	u := api.Under{From: 1, To: 0, Bytes: in[:5]}
	b := fresh(t, 48)
	add(t, b, u, api.OK)
	add(t, b, u, api.OK)
	f := b.Fork()
	x, _ := b.Take(0, true)
	y, _ := b.Take(0, true)
	z, _ := f.Take(0, true)
	if string(in) != "hello spare" {
		t.Error("what was handed in changed")
	}
	in[0] = 'X'
	_ = append(x.Bytes, "spoilt by what was laid behind"...)
	x.Bytes[1] = 'X'
	stands(t, b, 0, "hello", "hello")
	stands(t, f, 0, "hello", "hello")
	if string(y.Bytes) != "hello" || string(z.Bytes) != "hello" || string(in) != "Xello spare" {
		t.Error("two lie in the same memory")
	}
	// What is taken out of one stays in its fork, and no later change of it is seen there, nor in what was taken.
	w, _ := b.Take(0, false)
	for i := range w.Bytes {
		w.Bytes[i] = 'X'
	}
	stands(t, b, 0, "hello")
	stands(t, f, 0, "hello", "hello")
	v, _ := f.Take(0, false)
	add(t, f, under(1, 0, "other"), api.OK)
	add(t, b, under(1, 0, "thing"), api.OK)
	if string(v.Bytes) != "hello" || string(w.Bytes) != "XXXXX" {
		t.Error("what was taken changed with the bag")
	}
}

// P1: of nil.
func TestNil(t *testing.T) {
	var b *bag.Bag
	for _, u := range []api.Under{{}, under(1, 2, "x"), under(-1, 0, "")} {
		add(t, b, u, api.ErrNil)
	}
	for _, i := range append([]int{0, 1}, far...) {
		for _, keep := range []bool{true, false} {
			if u, e := b.Take(i, keep); !reflect.DeepEqual(u, api.Under{}) || e != api.ErrNil {
				t.Errorf("Take(%d, %v) = %v, %d", i, keep, u, e)
			}
		}
		if e := b.Lose(i); e != api.ErrNil {
			t.Errorf("Lose(%d) = %d", i, e)
		}
		first(t, b, i, -1)
	}
	if b.Len() != 0 || b.Lost() != 0 || b.Fork() != nil {
		t.Error("Len, Lost, Fork")
	}
}

// model is what a bag is to be, reckoned in another way: each message has a number, and where it is stands by that.
type model struct {
	most, lost int
	next       int
	in         map[int]api.Under
}

// fork is another model that is alike.
func (m *model) fork() *model {
	o := *m
	o.in = map[int]api.Under{}
	for n, u := range m.in {
		o.in[n] = u
	}
	return &o
}

// order is the numbers of what is in it.
func (m *model) order() []int {
	var l []int
	for n := range m.next {
		if _, in := m.in[n]; in {
			l = append(l, n)
		}
	}
	return l
}

// P14.2 (M4), P14.3, P4: whatever becomes of bags and of their forks, each message that was added is in it, was taken once, or is lost.
func TestModel(t *testing.T) {
	r := rand.New(rand.NewSource(142))
	for range 150 {
		n := 1 + r.Intn(48)/(1+r.Intn(8))
		bags, models := []*bag.Bag{fresh(t, max(n, 1))}, []*model{{most: max(n, 1), in: map[int]api.Under{}}}
		for step := range 300 {
			k := r.Intn(len(bags))
			b, m := bags[k], models[k]
			switch l := m.order(); r.Intn(12) {
			default: // it is added
				u := under(r.Intn(8), r.Intn(8), strconv.Itoa(step)+strings.Repeat("x", r.Intn(20)))
				if e := b.Add(u); (e == api.OK) != (len(l) < m.most) || e != api.OK && e != api.ErrFull {
					t.Fatalf("Add = %d, of %d are %d in it", e, m.most, len(l))
				} else if e == api.ErrFull {
					m.lost++
				} else {
					m.in[m.next] = u
					m.next++
				}
			case 0, 1, 2, 3: // it is taken
				i, keep := r.Intn(len(l)+2), r.Intn(3) == 0
				u, e := b.Take(i, keep)
				if i >= len(l) {
					if e != api.ErrArg || !same(u, api.Under{}) {
						t.Fatalf("Take(%d) of %d = %v, %d", i, len(l), u, e)
					}
					break
				}
				if e != api.OK || !same(u, m.in[l[i]]) {
					t.Fatalf("Take(%d) = %v, %d, want %v", i, u, e, m.in[l[i]])
				}
				if u.Bytes[0] = 'X'; !keep {
					delete(m.in, l[i])
				}
			case 4: // it is lost
				i := r.Intn(len(l)+2) - 1
				if e := b.Lose(i); (e == api.OK) != (i >= 0 && i < len(l)) {
					t.Fatalf("Lose(%d) of %d = %d", i, len(l), e)
				} else if e == api.OK {
					delete(m.in, l[i])
					m.lost++
				}
			case 5: // there is another one
				if len(bags) < 4 {
					bags, models = append(bags, b.Fork()), append(models, m.fork())
				}
			}
			for k, b := range bags {
				holds(t, b, models[k])
			}
		}
	}
}

// holds holds a bag against a model.
func holds(t *testing.T, b *bag.Bag, m *model) {
	t.Helper()
	l := m.order()
	if b.Len() != len(l) || b.Len() > m.most || b.Lost() != m.lost {
		t.Fatalf("%d are in it, %d were lost; want %d, %d", b.Len(), b.Lost(), len(l), m.lost)
	}
	for i, u := range held(t, b) {
		if !same(u, m.in[l[i]]) {
			t.Fatalf("at %d is %v, want %v", i, u, m.in[l[i]])
		}
	}
	for to := range 9 {
		first(t, b, to, slices.IndexFunc(l, func(n int) bool { return m.in[n].To == to }))
	}
}
